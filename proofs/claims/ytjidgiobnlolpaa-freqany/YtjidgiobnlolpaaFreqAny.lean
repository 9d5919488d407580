/- The statement FreqAny (P1, P6.2: any bytes: a table whose bytes they are, or an error; tables that may not be) holds for every input: the Go function answers true, and its arguments read as before. No conditions beyond the row's own. -/
import Derived.Test.YtjidgiobnlolpaaRows
import Derived.WalkKit
import Derived.ProofKit
import Derived.OpenShut
import Derived.ShutString
import Derived.ChangeOld
import Derived.Below
import Derived.Test.YtjidgiobnlolpaaAwake6
import Derived.Test.YtjidgiobnlolpaaFrqEq
import Derived.Test.YtjidgiobnlolpaaFrqPut
import Derived.Test.YtjidgiobnlolpaaFrqTake
import Derived.Test.YtjidgiobnlolpaaFrqAn
import Derived.Outline
import Derived.RegionTactic
import Derived.Deep.Slices
import Derived.Deep.SlicePairs
namespace Go.Proofs.Ytjidgiobnlolpaa.freqAny
open Go.ChangeShapes Go.WideShapes Go.ChangeAt Go.RowKit Go.Deep
open Go.Proofs.Ytjidgiobnlolpaa.Gen Go.Proofs.Ytjidgiobnlolpaa.Wr Go.Proofs.Ytjidgiobnlolpaa.It Go.Proofs.Ytjidgiobnlolpaa.Fq Go.Proofs.Ytjidgiobnlolpaa.Aw Go.Proofs.Ytjidgiobnlolpaa.Ww Go.Proofs.Ytjidgiobnlolpaa.Fb
set_option linter.unusedVariables false

theorem own : ownKnob Try.prog.godebug = none := by kernel_rfl
theorem laidOut : laidOutB Try.prog = true := by kernel_rfl

/-- What the walk is told of a slice of integers that came in: it is nil, or a row of cells that hold zs, each of which fits. -/
def IsRow (k : IntKind) (w : World) (a : Option Addr) (len cap : Nat) (zs : List Int) : Prop :=
  (a = none ∧ len = 0 ∧ cap = 0 ∧ zs = []) ∨
  ∃ x, a = some x ∧ len ≤ cap ∧ cap ≤ maxLen ∧ zs.length = cap ∧ (∀ i, i < zs.length → w.cell? (x.add i) = some (.int k (zs.getD i 0))) ∧ ∀ n ∈ zs, (Lit.int k n).wf = true
/-- And of a slice of such slices: it is nil, or each of its cells holds one. -/
def IsRows (k : IntKind) (w : World) (a : Option Addr) (len cap : Nat) : Prop :=
  (a = none ∧ len = 0 ∧ cap = 0) ∨
  ∃ x, a = some x ∧ len ≤ cap ∧ cap ≤ maxLen ∧ ∀ i, i < len → ∃ b n c zs, w.cell? (x.add i) = some (.slice b n c) ∧ IsRow k w b n c zs
/-- And of a slice of structs of two integers. -/
def IsPairs (k0 k1 : IntKind) (w : World) (a : Option Addr) (len cap : Nat) (zs : List (Int × Int)) : Prop :=
  (a = none ∧ len = 0 ∧ cap = 0 ∧ zs = []) ∨
  ∃ x, a = some x ∧ len ≤ cap ∧ cap ≤ maxLen ∧ zs.length = cap ∧ ∀ i, i < zs.length → w.cell? (x.add (i * 2)) = some (.int k0 (zs.getD i (0, 0)).1) ∧ w.cell? (x.add (i * 2 + 1)) = some (.int k1 (zs.getD i (0, 0)).2) ∧ (Lit.int k0 (zs.getD i (0, 0)).1).wf = true ∧ (Lit.int k1 (zs.getD i (0, 0)).2).wf = true
section
variable {H : Type} {enc : TypeId × Value → H} {W : World}
theorem open_pairs {t e : TypeId} {k0 k1 : IntKind} {f0 f1 : Field} {fuel : Nat} {a : Option Addr} {len cap : Nat} {x : DataW H × List MemPlace} (ht : Try.prog.underlying t = some (.slice e)) (he : Try.prog.underlying e = some (.struct #[f0, f1])) (h0 : Try.prog.underlying f0.type = some (.int k0)) (h1 : Try.prog.underlying f1.type = some (.int k1))
    (ce : Try.prog.cellsOf e = 2) (o0 : f0.offset = 0) (o1 : f1.offset = 1) (c0 : Try.prog.cellsOf f0.type = 1) (c1 : Try.prog.cellsOf f1.type = 1)
    (hf : DataW.trod enc Try.prog W 0 (fun _ => true) true fuel t (Value.slice a len cap).cells.toList = some x) : ∃ zs, IsPairs k0 k1 W a len cap zs := by
  rcases open_slice_pairs ht he ce o0 o1 c0 c1 hf with ⟨hcs, _⟩ | ⟨y, l, c, m, n, V0, V1, D0, D1, P0, P1, hcs, _, hl, hm, hmm, _, hi⟩
  · simp [Value.cells] at hcs
    obtain ⟨rfl, rfl, rfl⟩ := hcs
    exact ⟨[], .inl ⟨rfl, rfl, rfl, rfl⟩⟩
  · simp [Value.cells] at hcs
    obtain ⟨rfl, rfl, rfl⟩ := hcs
    simp only [if_true] at hmm
    refine ⟨(List.range cap).map fun i => (intOf (V0 i), intOf (V1 i)), .inr ⟨y, rfl, hl, hm, by simp, fun i hil => ?_⟩⟩
    have hic : i < cap := by simpa using hil
    obtain ⟨g0, g1, g2, g3⟩ := hi i (by omega)
    obtain ⟨n0, e0, _, w0⟩ := DataW.trod_int h0 g2
    obtain ⟨n1, e1, _, w1⟩ := DataW.trod_int h1 g3
    injection e0 with e0
    injection e1 with e1
    rw [e0] at g0
    rw [e1] at g1
    have hz : ((List.range cap).map fun i => (intOf (V0 i), intOf (V1 i))).getD i (0, 0) = (n0, n1) := by
      simp [List.getD_eq_getElem?_getD, hic, e0, e1, intOf]
    rw [hz]
    exact ⟨g0, g1, w0, w1⟩
theorem okw_arr {t e : TypeId} {n : Nat} {r : Reach} {base : Nat} {v : Value} (ht : Try.prog.underlying t = some (.array n e)) (hc : Try.prog.cellsOf t = n) (h : Value.okWide Try.prog W r base t v) : ∃ cs : Array Value, v = .agg cs ∧ cs.size = n := by
  simp only [Value.okWide, ht] at h
  obtain ⟨cs, h1, h2, _⟩ := h
  exact ⟨cs, h1, by rw [h2, hc]⟩
theorem open_arr {t e : TypeId} {k : IntKind} {n fuel : Nat} {cs : Array Value} {x : DataW H × List MemPlace} (ht : Try.prog.underlying t = some (.array n e)) (he : Try.prog.underlying e = some (.int k)) (ce : Try.prog.cellsOf e = 1) (hn : cs.size = n)
    (hf : DataW.trod enc Try.prog W 0 (fun _ => true) true fuel t (Value.agg cs).cells.toList = some x) : ∃ zs : List Int, (zs.length = n ∧ ∀ z ∈ zs, (Lit.int k z).wf = true) ∧ cs = (zs.map (Value.int k)).toArray := by
  obtain ⟨xs, m, _, _, _, hx, hi⟩ := DataW.trod_array ht hf
  have hall : ∀ i, i < n → ∃ z, cs[i]? = some (.int k z) ∧ (Lit.int k z).wf = true := by
    intro i hin
    have h1 := hi i hin
    rw [List.getElem?_eq_getElem (by omega), ce, Nat.mul_one] at h1
    obtain ⟨z, e1, _, wz⟩ := DataW.trod_int he h1
    refine ⟨z, ?_, wz⟩
    have h2 : (((Value.agg cs).cells.toList.drop i).take 1)[0]? = some (Value.int k z) := by rw [e1]; rfl
    simpa [List.getElem?_take, List.getElem?_drop, Value.cells] using h2
  refine ⟨cs.toList.map intOf, ⟨by simpa using hn, fun z hz => ?_⟩, ?_⟩
  · simp only [List.mem_map] at hz
    obtain ⟨u, hu, rfl⟩ := hz
    obtain ⟨i, hil, rfl⟩ := List.getElem_of_mem hu
    obtain ⟨z, hz, wz⟩ := hall i (by simpa [hn] using hil)
    have : cs.toList[i] = .int k z := by
      have h3 : cs.toList[i]? = some (.int k z) := by simpa using hz
      rw [List.getElem?_eq_getElem hil] at h3
      exact Option.some.inj h3
    rw [this]
    exact wz
  · apply Array.ext_getElem?
    intro i
    by_cases hin : i < n
    · obtain ⟨z, hz, _⟩ := hall i hin
      rw [hz]
      simp [hz, intOf]
    · rw [Array.getElem?_eq_none (by omega), Array.getElem?_eq_none (by simp; omega)]
theorem open_row {t e : TypeId} {k : IntKind} {fuel : Nat} {a : Option Addr} {len cap : Nat} {x : DataW H × List MemPlace} (ht : Try.prog.underlying t = some (.slice e)) (he : Try.prog.underlying e = some (.int k)) (h1 : Try.prog.cellsOf e = 1)
    (hf : DataW.trod enc Try.prog W 0 (fun _ => true) true fuel t (Value.slice a len cap).cells.toList = some x) : ∃ zs, IsRow k W a len cap zs := by
  rcases open_ints ht he h1 hf with ⟨hcs, _⟩ | ⟨x, l, c, zs, hcs, _, hl, hm, hz, _, hcell, hwz⟩
  · simp [Value.cells] at hcs
    obtain ⟨rfl, rfl, rfl⟩ := hcs
    exact ⟨[], .inl ⟨rfl, rfl, rfl, rfl⟩⟩
  · simp [Value.cells] at hcs
    obtain ⟨rfl, rfl, rfl⟩ := hcs
    exact ⟨zs, .inr ⟨_, rfl, hl, hm, by simpa using hz, hcell, hwz⟩⟩
theorem open_rows {t e g : TypeId} {k : IntKind} {fuel : Nat} {a : Option Addr} {len cap : Nat} {x : DataW H × List MemPlace} (ht : Try.prog.underlying t = some (.slice e)) (he : Try.prog.underlying e = some (.slice g)) (hg : Try.prog.underlying g = some (.int k)) (h1 : Try.prog.cellsOf e = 1) (h2 : Try.prog.cellsOf g = 1)
    (hf : DataW.trod enc Try.prog W 0 (fun _ => true) true fuel t (Value.slice a len cap).cells.toList = some x) : IsRows k W a len cap := by
  rcases open_slice ht hf with ⟨hcs, _⟩ | ⟨x, l, c, m, n, D, Pl, hcs, _, hl, hm, hmm, _, hi⟩
  · simp [Value.cells] at hcs
    obtain ⟨rfl, rfl, rfl⟩ := hcs
    exact .inl ⟨rfl, rfl, rfl⟩
  · simp [Value.cells] at hcs
    obtain ⟨rfl, rfl, rfl⟩ := hcs
    refine .inr ⟨x, rfl, hl, hm, fun i hil => ?_⟩
    simp only [if_true] at hmm
    obtain ⟨cs, hc, htr⟩ := hi i (by omega)
    rw [h1, Nat.mul_one] at hc
    obtain ⟨_, hlen, hat⟩ := World.cells?_some hc
    have h0 := hat 0 (by omega)
    have ha0 : (x.add i).add 0 = x.add i := by rw [Go.Deep.add_add]; rfl
    rw [ha0] at h0
    rcases open_ints he hg h2 htr with ⟨hcs, _⟩ | ⟨y, l', c', zs, hcs, _, hl', hm', hz, _, hcell, hwz⟩
    · subst hcs
      exact ⟨none, 0, 0, [], by simpa using h0, .inl ⟨rfl, rfl, rfl, rfl⟩⟩
    · subst hcs
      exact ⟨some y, l', c', zs, by simpa using h0, .inr ⟨y, rfl, hl', hm', by simpa using hz, hcell, hwz⟩⟩
end
/-- A whole row is loaded, in a region that draws its order. -/
theorem yields_row {ops : Array Oper} {S : World → Prop} {dst : Option Tmp} {ty ty' e : TypeId} {n : Nat} {x : Operand} {pos : String} {after : Array Edge} {gd : Option (Nat × Bool)} {a : Act} {g : Nat} {t : TypeId} {cs : Array Value}
    (hw : Region.wanted { dst := dst, op := .load ty x, type := ty', pos := pos, after := after, guard := gd } (yielded ops a.tmps) = true) (hS : ∀ w, S w → Blk w g t cs)
    (hu : Try.prog.underlying ty = some (.array n e)) (hi : (Try.prog.info? ty).map (·.size) = some cs.size) (hx : a.eval x = .pointer (some ⟨g, 0, none⟩)) :
    YieldsIf Try.prog ops S { dst := dst, op := .load ty x, type := ty', pos := pos, after := after, guard := gd } (.agg cs) a :=
  .inl ⟨hw, fun w hw' => by
    unfold execOp
    simp only [hx, Instr.loadAt, Instr.sureAddr, Sem.run_bind, Sem.run_pure, Result.andThen_ok, run_loadVar_row w g t ty cs (0, 0) _ (hS w hw') hu rfl hi]⟩
theorem lies_far {S : Nat → Prop} {w w1 : World} {A : Option Addr} {xs : List Int} (h : Lies w A xs) (k : Keeps S w w1) (hn : ∀ b, b < w.heap.size → ¬ S b) : Lies w1 A xs := by
  rcases h with h | ⟨b, o, hA, hb, hc⟩
  · exact .inl h
  · exact .inr ⟨b, o, hA, Nat.lt_of_lt_of_le hb k.size, fun i hi => (k.cell (p := ⟨b, o + i, none⟩) hb (hn b hb)).trans (hc i hi)⟩
theorem size_u8 (w : World) : (sizeOf 5).run Try.prog w = .ok 1 w := by kernel_rfl
theorem run_cut_to {P : Program} (t e : TypeId) (A : Option Addr) (n c m : Nat) (kh : IntKind) (ht : P.underlying t = some (.slice e)) (he : ∀ w, (sizeOf e).run P w = .ok 1 w) (hm : m ≤ c) (w : World) :
    (Instr.slice t (.slice A n c) none (some (.int kh (m : Int))) none).run P w = .ok (.slice (cutAt A c 0) m c) w := by
  have hel : P.elem t = e := by simp [Program.elem, ht]
  rw [run_slice_h (P := P) w t A n c (by rw [hel]; exact ht) kh m (by omega) (by omega), hel, he]
  simp only [Result.andThen, sliced, Int.toNat_natCast]
  rfl
set_option maxRecDepth 20000 in
set_option maxHeartbeats 4000000 in
theorem walk (a0 : Option Addr) (len0 cap0 : Nat) (z0 : List Int) (z1 : List Int) (a2 : Int) (w : World) (w0 : IsRow .u8 w a0 len0 cap0 z0) (w1 : z1.length = 256 ∧ ∀ x ∈ z1, (Lit.int .i64 x).wf = true) (w2 : (Lit.int .u8 a2).wf = true) :
    Calls Try.prog 5 #[.slice a0 len0 cap0, .agg (z1.map (Value.int .i64)).toArray, .int .u8 a2] w fun e w' => e = .returned (.bool true) ∧ Below w.heap.size w w' := by
  obtain ⟨hxl, hlc, hl0, hbx⟩ := row_lies w0
  obtain ⟨htl, _⟩ := w1
  obtain ⟨xs, hxs⟩ : ∃ xs, z0.take len0 = xs := ⟨_, rfl⟩
  rw [hxs] at hxl hl0 hbx
  have HXL := Lib.hid hxl
  have HL0 := Lib.hid hl0
  have HBX := Lib.hid hbx
  have HLB : Hid (∀ b o, a0 = some ⟨b, o, none⟩ → xs ≠ [] → b < w.heap.size) := fun b o hb hx => by
    rcases HL0.out with h | ⟨b', o', h1, h2, _⟩
    · exact absurd h hx
    · rw [h1] at hb; injection hb with hb; injection hb with hb1 _; omega
  change Calls Try.prog 5 #[.slice a0 len0 cap0, .agg (vs z1), .int .u8 a2] w _
  obtain ⟨tv, htv⟩ : ∃ tv, vs z1 = tv := ⟨_, rfl⟩
  rw [htv]
  have HZL := Lib.hid htl
  have HZV := Lib.hid htv
  have HZI : Hid ((Try.prog.info? 27).map (·.size) = some tv.size) := by show _ = _; rw [← htv]; exact tab_size htl
  have HZG : Hid (∀ j, j < 256 → tv[j]? = some (.int .i64 (z1.getD j 0))) := fun j hj => by rw [← HZV.out]; exact vs_get (by rw [HZL.out]; exact hj)
  clear w0 w2 hxs hxl hl0 hbx htl htv
  have hz3 : ∀ w, (zeroValue 27).run Try.prog w = .ok (.agg (vs zs)) w := tab_zero
  have hbu := run_tab
  have HZ0I : Hid ((Try.prog.info? 27).map (·.size) = some (vs zs).size) := tab_size zs_len
  have HZ01 : Hid ((vs zs).all (·.oneCell') = true) := vs_one _
  have HZ0E : Hid (∀ w, (Op.equalIn 10000 27 (.agg (vs zs)) (.agg (vs zs))).run Try.prog w = .ok true w) := fun w => run_eq 27 Try.underlying27 zs zs _ _ true rfl rfl zs_len zs_len (by simp) w
  generalize hZ : vs zs = Z at hz3 hbu HZ0I HZ01 HZ0E
  have HZS := Lib.hid hZ
  have HZ256 : Hid (Z.size = 256) := by show _ = _; rw [← hZ, vs_size, zs_len]
  clear hZ
  by_cases h200 : 200 < len0
  · go_enter Try.func5, Try.ntmps5
    go_wp2_with (go_at_call 8; refine (awake _).mono ?_; rintro e w1 ⟨rfl, hb1⟩; have HK1 : Hid (Keeps (fun _ => False) w w1) := (((Keeps.refl _ _).alloc _).trans (Keeps.of_below hb1)); clear hb1)
    go_ret
    exact ⟨rfl, HK1.out.below (Nat.le_refl _) (fun _ h => h.elim)⟩
  · go_enter Try.func5, Try.ntmps5
    go_upto_region 5 with (go_at_call 8; refine (awake _).mono ?_; rintro e w1 ⟨rfl, hb1⟩; have HB1 := Lib.hid hb1; clear hb1)
    obtain ⟨B, hB⟩ : ∃ B, w.heap.size = B := ⟨_, rfl⟩
    have hk0 : Keeps (fun _ => False) (w.alloc (.cells tv 27)) w1 := Keeps.of_below HB1.out
    have HBB1 : Hid (Blk w1 B 27 tv) := by show Blk _ _ _ _; rw [← hB]; exact (Blk.new _ _ _).keeps hk0 id
    have HK1 : Hid (Keeps (fun _ => False) w w1) := (((Keeps.refl _ _).alloc _).trans hk0)
    have HBe := Lib.hid hB
    rw [hB]
    clear hB hk0 HB1
    go_upto_region 6 with (
      go_at_call 15
      refine (Ir.iread a0 len0 cap0 xs _ HXL.out (HL0.out.keeps HK1.out (fun _ _ _ => id)) (by omega) HBX.out).mono ?_
      rintro e w2 ⟨g2, rfl, hr2, hk2⟩
      have HR2 := Lib.hid hr2
      have HBB2 := Lib.hid (HBB1.out.keeps hk2 id)
      have HK2 := Lib.hid (HK1.out.trans hk2)
      have HB1l := Lib.hid HBB1.out.lt
      simp only [Ir.rd]
      clear hr2 hk2 HBB1 HK1)
    obtain ⟨X, hX⟩ : ∃ X, w2.heap.size = X := ⟨_, rfl⟩
    obtain ⟨b2, hb2⟩ : ∃ b2, w1.heap.size = b2 := ⟨_, rfl⟩
    rw [hb2] at HR2 HB1l
    have hbX := Blk.new w2 44 #[.pointer (some ⟨g2, 0, none⟩)]
    have hk3 : Keeps (fun _ => False) w2 (w2.alloc (.cells #[.pointer (some ⟨g2, 0, none⟩)] 44)) := (Keeps.refl _ _).alloc _
    generalize w2.alloc (.cells #[.pointer (some ⟨g2, 0, none⟩)] 44) = W3 at hbX hk3 ⊢
    have HR3 := Lib.hid (HR2.out.keeps hk3 (fun _ _ h => h))
    have HBB3 := Lib.hid (HBB2.out.keeps hk3 id)
    have HK3 := Lib.hid (HK2.out.trans hk3)
    have HG2 : Hid (b2 ≤ g2 ∧ g2 < X) := Lib.hid ⟨HR2.out.1, by rw [← hX]; exact HR2.out.lt⟩
    have HWb : Hid (w.heap.size ≤ b2) := Lib.hid (by have := HBe.out; have := HB1l.out; omega)
    rw [hX] at hbX ⊢
    have HX3 := Lib.hid hbX
    have hcX : W3.cell? ⟨X, 0, none⟩ = some (.pointer (some ⟨g2, 0, none⟩)) := hbX.cell 0
    clear hX hb2 hbX hk3 HR2 HBB2 HK2
    obtain ⟨u, s9, hts⟩ : ∃ u s9, takeT ⟨xs, 0, 0⟩ = (u, s9) := ⟨_, _, rfl⟩
    have hany := takeT_any HBX.out (by rw [HXL.out]; omega)
    rw [hts] at hany
    simp only at hany
    have HUL : Hid (u.length = 256) := by
      rcases hany with ⟨_, h⟩ | ⟨t, k, h, h2, _⟩
      · rw [h]; exact zs_len
      · injection h with h _; rw [h]; exact h2
    obtain ⟨v, hv⟩ : ∃ v, vs u = v := ⟨_, rfl⟩
    have HTAK : Hid (∀ w, IsRd b2 g2 ⟨xs, 0, 0⟩ w → Calls Try.prog 17 #[.agg #[.pointer (some ⟨g2, 0, none⟩)]] w fun r w' => r = .returned (.agg v) ∧ IsRd b2 g2 s9 w' ∧ Keeps (· = g2) w w') := by
      refine Lib.hid fun w h => ?_
      refine (Fb.take g2 _ b2 w h).mono fun r w' ⟨h1, h2, h3⟩ => ?_
      rw [hts] at h1 h2
      exact ⟨by rw [h1, hv], h2, h3⟩
    have HV := Lib.hid hv
    have HANY := Lib.hid hany
    have HVI : Hid ((Try.prog.info? 27).map (·.size) = some v.size) := by show _ = _; rw [← hv]; exact tab_size HUL.out
    have HV1 : Hid (v.all (·.oneCell') = true) := by show _ = _; rw [← hv]; exact vs_one _
    have HZ0V : Hid (Z.size = v.size) := by show _ = _; rw [← hv, HZ256.out, vs_size, HUL.out]
    clear hts hany hv
    go_upto_region 7 with (first
      | (go_at_call 17
         refine (HTAK.out _ HR3.out).mono ?_
         rintro e w4 ⟨rfl, hr4, hk4⟩
         have HR4 := Lib.hid hr4
         have HBB4 := Lib.hid (HBB3.out.keeps hk4 (fun e => by have := HB1l.out; have := HG2.out; omega))
         have HX4 := Lib.hid (HX3.out.keeps hk4 (fun e => by have := HG2.out; omega))
         have HK4 : Hid (Keeps (fun _ => False) w w4) := Lib.hid ⟨hk4.os.trans HK3.out.os, hk4.tape.trans HK3.out.tape, hk4.output.trans HK3.out.output, Nat.le_trans HK3.out.size hk4.size, fun b hb _ => (hk4.block b (Nat.lt_of_lt_of_le hb HK3.out.size) (fun e => by have := HWb.out; have := HG2.out; omega)).trans (HK3.out.block b hb id)⟩
         clear hr4 hk4 hcX HR3 HBB3 HX3 HK3 HTAK)
      | ((with_reducible refine st_row (Blk.new _ 27 Z) HVI.out HZ0V.out HV1.out ?_ ?_ ?_); rfl; rfl))
    obtain ⟨U, hU⟩ : ∃ U, w4.heap.size = U := ⟨_, rfl⟩
    have h1 : Blk ((w4.alloc (.cells Z 27)).setRow w4.heap.size v) w4.heap.size 27 v := new_put
    have h2 : Keeps (fun _ => False) w4 ((w4.alloc (.cells Z 27)).setRow w4.heap.size v) := Keeps.put_new (Keeps.refl _ _)
    generalize (w4.alloc (.cells Z 27)).setRow w4.heap.size v = W5 at h1 h2 ⊢
    rw [hU] at h1 ⊢
    have HU5 := Lib.hid h1
    have HX5 := Lib.hid (HX4.out.keeps h2 id)
    have HBB5 := Lib.hid (HBB4.out.keeps h2 id)
    have HR5 := Lib.hid (HR4.out.keeps h2 (fun _ _ h => h))
    have HK5 := Lib.hid (HK4.out.trans h2)
    have hcX : W5.cell? ⟨X, 0, none⟩ = some (.pointer (some ⟨g2, 0, none⟩)) := HX5.out.cell 0
    clear hU h1 h2 HX4 HBB4 HR4 HK4
    obtain ⟨er, her⟩ : ∃ er, s9.e = er := ⟨_, rfl⟩
    have HERR := Lib.hid (Wr.err g2 s9 b2 W5 HR5.out)
    rw [her] at HERR
    have HER := Lib.hid her
    clear her
    go_upto_if 27 with (go_at_call 20; refine HERR.out.mono ?_; rintro e w6 ⟨rfl, rfl⟩)
    go_cut [9] from 27 to 50 (fun _ wx => Hid (Blk wx B 27 tv ∧ Keeps (fun _ => False) w wx))
    case first =>
      by_cases he : er = 0
      · subst he
        obtain ⟨t, k, hsk, htl, htf, hts, hkx, htx⟩ : ∃ t k, (u, s9) = (t, ⟨xs, k, 0⟩) ∧ t.length = 256 ∧ Fine t ∧ t.sum = 4096 ∧ k ≤ xs.length ∧ tabB t = xs.take k := by
          rcases HANY.out with ⟨h, _⟩ | h
          · exact absurd HER.out h
          · exact h
        injection hsk with h1 h2
        subst h1
        subst h2
        have HTLen := Lib.hid htl
        have HTF := Lib.hid htf
        have HTS := Lib.hid hts
        have HTX := Lib.hid htx
        rw [HXL.out] at hkx
        have HTL : Hid ((tabB u).length = k) := by show _ = _; rw [HTX.out, List.length_take, HXL.out]; omega
        obtain ⟨sx, hsx⟩ : ∃ sx, strOfNums (tabB u) = sx := ⟨_, rfl⟩
        have HSX := Lib.hid hsx
        have hkc : k ≤ cap0 := by omega
        clear htl htf hts htx hsx HER HERR
        have h00 : ((0 : Int) != 0) = false := by decide
        rw [h00]
        go_upto_region 11 with fail
        have hw0 := new_of 40 (by decide) W5
        obtain ⟨g, hg⟩ : ∃ g, W5.heap.size = g := ⟨_, rfl⟩
        have hk6 : Keeps (fun _ => False) W5 (W5.alloc (.cells #[.slice none 0 0] 40)) := (Keeps.refl _ _).alloc _
        have HUg : Hid (U < g) := by show _ < _; rw [← hg]; exact HU5.out.lt
        have HXg : Hid (X < g) := by show _ < _; rw [← hg]; exact HX5.out.lt
        have HBg : Hid (B < g) := by show _ < _; rw [← hg]; exact HBB5.out.lt
        have HWg : Hid (w.heap.size ≤ g) := by show _ ≤ _; rw [← hg]; exact HK5.out.size
        generalize W5.alloc (.cells #[.slice none 0 0] 40) = W10 at hw0 hk6 ⊢
        rw [hg] at hw0 ⊢
        have HW10 := Lib.hid hw0
        have HU10 := Lib.hid (HU5.out.keeps hk6 id)
        have HX10 := Lib.hid (HX5.out.keeps hk6 id)
        have HBB10 := Lib.hid (HBB5.out.keeps hk6 id)
        have HR10 := Lib.hid (HR5.out.keeps hk6 (fun _ _ h => h))
        have HK10 := Lib.hid (HK5.out.trans hk6)
        have HClose : Hid (∀ wx, Keeps (g ≤ ·) W10 wx → Blk wx B 27 tv ∧ Keeps (fun _ => False) w wx) := Lib.hid fun wx hk => ⟨HBB10.out.keeps hk (by have := HBg.out; omega), ⟨hk.os.trans HK10.out.os, hk.tape.trans HK10.out.tape, hk.output.trans HK10.out.output, Nat.le_trans HK10.out.size hk.size, fun b hb _ => (hk.block b (Nat.lt_of_lt_of_le hb HK10.out.size) (by have := HWg.out; omega)).trans (HK10.out.block b hb id)⟩⟩
        clear hg hw0 hk6 HU5 HX5 HBB5 HR5 HK5 hcX
        refine wp_region_held_drew (S := fun w' => Keeps (g ≤ ·) W10 w') (by kernel_rfl) ((Keeps.refl _ _).drewN 1) (fun hHeld => ?_)
        have HDr : Hid (Keeps (fun _ => False) W10 W10.drew) := (Keeps.refl _ _).drewN 1
        generalize W10.drew = w11 at hHeld HDr ⊢
        refine wpAnyH_take (i := 0) (v := .agg v) rfl (by kernel_rfl) (by kernel_rfl) (by kernel_rfl) (fun _ _ _ h => h) (yields_row (by rfl) (fun w hSw => HU10.out.keeps hSw (by have := HUg.out; omega)) Try.underlying27 HVI.out (by rfl)) hHeld ?_
        simp only [Act.put, List.getElem_toArray, List.getElem_cons_succ, List.getElem_cons_zero, List.setIfInBounds_toArray, List.set_cons_zero, List.set_cons_succ]
        refine wpAnyH_take (i := 1) (v := ?v8) rfl (by kernel_rfl) (by kernel_rfl) (by kernel_rfl) (fun _ _ _ h => h) (Or.inl ⟨by rfl, ?y8⟩) hHeld ?r8
        case y8 => (intro w hSw; go_simp; try with_reducible rfl)
        simp only [Act.put, List.getElem_toArray, List.getElem_cons_succ, List.getElem_cons_zero, List.setIfInBounds_toArray, List.set_cons_zero, List.set_cons_succ]
        refine wpAnyH_ready (rs := [2]) (by kernel_rfl) (by simp) ?_
        refine AllReadyH.cons rfl (fun K hK => ?_) AllReadyH.nil
        go_simp
        refine (put_ok g g (.slice none 0 0) [] u v _ (HW10.out.keeps HDr.out (fun _ _ h => h)) (by simp) HTLen.out HV.out HTF.out HTS.out).mono ?_
        rintro e w12 ⟨rfl, hh12⟩
        dsimp only
        rw [List.nil_append] at hh12
        have HH12 := Lib.hid hh12
        have hH12 : Keeps (g ≤ ·) W10 w12 := by
          obtain ⟨_, _, h⟩ := hh12
          exact hHeld.trans h
        clear hh12
        refine hK.out _ _ hH12 (fun hHeld => ?_)
        clear hK K
        try simp only [Act.put, List.getElem_toArray, List.getElem_cons_succ, List.getElem_cons_zero, List.setIfInBounds_toArray, List.set_cons_zero, List.set_cons_succ]
        refine wpAnyH_take (i := 3) (v := ?v9) rfl (by kernel_rfl) (by kernel_rfl) (by kernel_rfl) (fun _ _ _ h => h) (Or.inl ⟨by rfl, ?y9⟩) hHeld ?r9
        case y9 => (intro w hSw; go_simp; try with_reducible rfl)
        simp only [Act.put, List.getElem_toArray, List.getElem_cons_succ, List.getElem_cons_zero, List.setIfInBounds_toArray, List.set_cons_zero, List.set_cons_succ]
        refine wpAnyH_take (i := 4) (v := ?v10) rfl (by kernel_rfl) (by kernel_rfl) (by kernel_rfl) (fun _ _ _ h => h) (Or.inl ⟨by rfl, ?y10⟩) hHeld ?r10
        case y10 => (intro w hSw; go_simp; try with_reducible rfl)
        simp only [Act.put, List.getElem_toArray, List.getElem_cons_succ, List.getElem_cons_zero, List.setIfInBounds_toArray, List.set_cons_zero, List.set_cons_succ]
        refine wpAnyH_take (i := 5) (v := ?v11) rfl (by kernel_rfl) (by kernel_rfl) (by kernel_rfl) (fun _ _ _ h => h) (Or.inl ⟨by rfl, ?y11⟩) hHeld ?r11
        case y11 => (intro w hSw; go_simp; try with_reducible rfl)
        simp only [Act.put, List.getElem_toArray, List.getElem_cons_succ, List.getElem_cons_zero, List.setIfInBounds_toArray, List.set_cons_zero, List.set_cons_succ]
        refine wpAnyH_take (i := 6) (v := ?v12) rfl (by kernel_rfl) (by kernel_rfl) (by kernel_rfl) (fun _ _ _ h => h) (Or.inl ⟨by rfl, ?y12⟩) hHeld ?r12
        case y12 => (intro w hSw; go_simp; try with_reducible rfl)
        simp only [Act.put, List.getElem_toArray, List.getElem_cons_succ, List.getElem_cons_zero, List.setIfInBounds_toArray, List.set_cons_zero, List.set_cons_succ]
        refine wpAnyH_take (i := 7) (v := ?v13) rfl (by kernel_rfl) (by kernel_rfl) (by kernel_rfl) (fun _ _ _ h => h) (Or.inl ⟨by rfl, ?y13⟩) hHeld ?r13
        case y13 => (intro w hSw; go_simp; try with_reducible rfl)
        simp only [Act.put, List.getElem_toArray, List.getElem_cons_succ, List.getElem_cons_zero, List.setIfInBounds_toArray, List.set_cons_zero, List.set_cons_succ]
        refine wpAnyH_take (i := 10) (v := ?v14) rfl (by kernel_rfl) (by kernel_rfl) (by kernel_rfl) (fun _ _ _ h => h) (Or.inl ⟨by rfl, ?y14⟩) hHeld ?r14
        case y14 => (intro w hSw; go_simp; try with_reducible rfl)
        simp only [Act.put, List.getElem_toArray, List.getElem_cons_succ, List.getElem_cons_zero, List.setIfInBounds_toArray, List.set_cons_zero, List.set_cons_succ]
        refine wpAnyH_take (i := 11) (v := ?v15) rfl (by kernel_rfl) (by kernel_rfl) (by kernel_rfl) (fun _ _ _ h => h) (Or.inl ⟨by rfl, ?y15⟩) hHeld ?r15
        case y15 => (intro w hSw; go_simp; try with_reducible rfl)
        simp only [Act.put, List.getElem_toArray, List.getElem_cons_succ, List.getElem_cons_zero, List.setIfInBounds_toArray, List.set_cons_zero, List.set_cons_succ]
        refine wpAnyH_take (i := 12) (v := ?v16) rfl (by kernel_rfl) (by kernel_rfl) (by kernel_rfl) (fun _ _ _ h => h) (Or.inl ⟨by rfl, ?y16⟩) hHeld ?r16
        case y16 => (intro w hSw; have hcx := (HX10.out.keeps hSw (by have := HXg.out; omega)).cell 0; simp only [List.getElem?_toArray, List.getElem?_cons_zero] at hcx; go_simp; try with_reducible rfl)
        simp only [Act.put, List.getElem_toArray, List.getElem_cons_succ, List.getElem_cons_zero, List.setIfInBounds_toArray, List.set_cons_zero, List.set_cons_succ]
        refine wpAnyH_ready (rs := [8]) (by kernel_rfl) (by simp) ?_
        refine AllReadyH.cons rfl (fun K hK => ?_) AllReadyH.nil
        go_simp
        obtain ⟨v5, hw5, hk5⟩ := HH12.out
        refine (Ww.bytes_n g g v5 (tabB u) k _ HTL.out hw5).mono ?_
        rintro e w13 ⟨A13, c13, rfl, hv13, hk13⟩
        dsimp only
        have HL13 := Lib.hid (Lies.of_own hv13)
        have hH13 := hHeld.trans hk13.none_
        clear hv13 hk13 hw5 hk5
        refine hK.out _ _ hH13 (fun hHeld => ?_)
        clear hK K
        try simp only [Act.put, List.getElem_toArray, List.getElem_cons_succ, List.getElem_cons_zero, List.setIfInBounds_toArray, List.set_cons_zero, List.set_cons_succ]
        refine wpAnyH_ready (rs := [9, 13]) (by kernel_rfl) (by simp) ?_
        refine AllReadyH.cons rfl (fun K hK => ?_) (AllReadyH.cons rfl (fun K hK => ?_) AllReadyH.nil)
        · have hcv := HL13.out.str_n (P := Try.prog) k HTL.out 22 9 5 c13 Try.underlying22 Try.underlying5 Try.underlying9
          rw [HSX.out] at hcv
          go_simp
          clear hcv
          refine hK.out _ _ hHeld (fun hHeld => ?_)
          clear hK K
          try simp only [Act.put, List.getElem_toArray, List.getElem_cons_succ, List.getElem_cons_zero, List.setIfInBounds_toArray, List.set_cons_zero, List.set_cons_succ]
          refine wpAnyH_ready (rs := [13]) (by kernel_rfl) (by simp) ?_
          refine AllReadyH.cons rfl (fun K hK => ?_) AllReadyH.nil
          go_simp
          refine (Wr.at_q g2 _ b2 _ (HR10.out.low hHeld (fun b _ hb h => by have := HG2.out; have := HXg.out; omega))).mono ?_
          rintro e w14 ⟨rfl, rfl⟩
          dsimp only
          refine hK.out _ _ hHeld (fun hHeld => ?_)
          clear hK K
          try simp only [Act.put, List.getElem_toArray, List.getElem_cons_succ, List.getElem_cons_zero, List.setIfInBounds_toArray, List.set_cons_zero, List.set_cons_succ]
          refine wpAnyH_take (i := 14) (v := ?v1) rfl (by kernel_rfl) (by kernel_rfl) (by kernel_rfl) (fun _ _ _ h => h) (Or.inl ⟨by rfl, ?y1⟩) hHeld ?r1
          case y1 => (intro w hSw; have hcu := run_cut_to (P := Try.prog) 22 5 a0 len0 cap0 k .i64 Try.underlying22 size_u8 (by omega) w; go_simp; try with_reducible rfl)
          simp only [Act.put, List.getElem_toArray, List.getElem_cons_succ, List.getElem_cons_zero, List.setIfInBounds_toArray, List.set_cons_zero, List.set_cons_succ]
          refine wpAnyH_take (i := 15) (v := ?v2) rfl (by kernel_rfl) (by kernel_rfl) (by kernel_rfl) (fun _ _ _ h => h) (Or.inl ⟨by rfl, ?y2⟩) hHeld ?r2
          case y2 => (intro w hSw; have hcv := (lies_far (HL0.out.cutAt cap0 0 k (by rw [HXL.out]; exact hlc) (by rw [HXL.out, Nat.zero_add]; exact hkx)) ((HK10.out.none_ (S := (g ≤ ·))).trans hSw) (fun b hb h => by have := HWg.out; omega)).str_n (P := Try.prog) k (by rw [List.drop_zero, List.length_take, HXL.out]; omega) 22 9 5 cap0 Try.underlying22 Try.underlying5 Try.underlying9; rw [List.drop_zero, ← HTX.out, HSX.out] at hcv; go_simp; try with_reducible rfl)
          simp only [Act.put, List.getElem_toArray, List.getElem_cons_succ, List.getElem_cons_zero, List.setIfInBounds_toArray, List.set_cons_zero, List.set_cons_succ]
          refine wpAnyH_take (i := 16) (v := ?v3) rfl (by kernel_rfl) (by kernel_rfl) (by kernel_rfl) (fun _ _ _ h => h) (Or.inl ⟨by rfl, ?y3⟩) hHeld ?r3
          case y3 => (intro w hSw; go_simp; try with_reducible rfl)
          simp only [Act.put, List.getElem_toArray, List.getElem_cons_succ, List.getElem_cons_zero, List.setIfInBounds_toArray, List.set_cons_zero, List.set_cons_succ]
          refine wpAnyH_take (i := 17) (v := ?v4) rfl (by kernel_rfl) (by kernel_rfl) (by kernel_rfl) (fun _ _ _ h => h) (Or.inl ⟨by rfl, ?y4⟩) hHeld ?r4
          case y4 => (intro w hSw; go_simp; try with_reducible rfl)
          simp only [Act.put, List.getElem_toArray, List.getElem_cons_succ, List.getElem_cons_zero, List.setIfInBounds_toArray, List.set_cons_zero, List.set_cons_succ]
          refine wpAnyH_done (by kernel_rfl) ?_ _
          have HFin := Lib.hid hHeld
          clear hHeld
          go_wp2_with fail
          go_meet
          case rel => exact Lib.hid (HClose.out _ HFin.out)
        · go_simp
          refine (Wr.at_q g2 _ b2 _ (HR10.out.low hHeld (fun b _ hb h => by have := HG2.out; have := HXg.out; omega))).mono ?_
          rintro e w14 ⟨rfl, rfl⟩
          dsimp only
          refine hK.out _ _ hHeld (fun hHeld => ?_)
          clear hK K
          try simp only [Act.put, List.getElem_toArray, List.getElem_cons_succ, List.getElem_cons_zero, List.setIfInBounds_toArray, List.set_cons_zero, List.set_cons_succ]
          refine wpAnyH_take (i := 14) (v := ?w1) rfl (by kernel_rfl) (by kernel_rfl) (by kernel_rfl) (fun _ _ _ h => h) (Or.inl ⟨by rfl, ?z1⟩) hHeld ?s1
          case z1 => (intro w hSw; have hcu := run_cut_to (P := Try.prog) 22 5 a0 len0 cap0 k .i64 Try.underlying22 size_u8 (by omega) w; go_simp; try with_reducible rfl)
          simp only [Act.put, List.getElem_toArray, List.getElem_cons_succ, List.getElem_cons_zero, List.setIfInBounds_toArray, List.set_cons_zero, List.set_cons_succ]
          refine wpAnyH_take (i := 15) (v := ?v5) rfl (by kernel_rfl) (by kernel_rfl) (by kernel_rfl) (fun _ _ _ h => h) (Or.inl ⟨by rfl, ?y5⟩) hHeld ?r5
          case y5 => (intro w hSw; have hcv := (lies_far (HL0.out.cutAt cap0 0 k (by rw [HXL.out]; exact hlc) (by rw [HXL.out, Nat.zero_add]; exact hkx)) ((HK10.out.none_ (S := (g ≤ ·))).trans hSw) (fun b hb h => by have := HWg.out; omega)).str_n (P := Try.prog) k (by rw [List.drop_zero, List.length_take, HXL.out]; omega) 22 9 5 cap0 Try.underlying22 Try.underlying5 Try.underlying9; rw [List.drop_zero, ← HTX.out, HSX.out] at hcv; go_simp; try with_reducible rfl)
          simp only [Act.put, List.getElem_toArray, List.getElem_cons_succ, List.getElem_cons_zero, List.setIfInBounds_toArray, List.set_cons_zero, List.set_cons_succ]
          refine wpAnyH_ready (rs := [9]) (by kernel_rfl) (by simp) ?_
          refine AllReadyH.cons rfl (fun K hK => ?_) AllReadyH.nil
          have hcv := HL13.out.str_n (P := Try.prog) k HTL.out 22 9 5 c13 Try.underlying22 Try.underlying5 Try.underlying9
          rw [HSX.out] at hcv
          go_simp
          clear hcv
          refine hK.out _ _ hHeld (fun hHeld => ?_)
          clear hK K
          try simp only [Act.put, List.getElem_toArray, List.getElem_cons_succ, List.getElem_cons_zero, List.setIfInBounds_toArray, List.set_cons_zero, List.set_cons_succ]
          refine wpAnyH_take (i := 16) (v := ?v6) rfl (by kernel_rfl) (by kernel_rfl) (by kernel_rfl) (fun _ _ _ h => h) (Or.inl ⟨by rfl, ?y6⟩) hHeld ?r6
          case y6 => (intro w hSw; go_simp; try with_reducible rfl)
          simp only [Act.put, List.getElem_toArray, List.getElem_cons_succ, List.getElem_cons_zero, List.setIfInBounds_toArray, List.set_cons_zero, List.set_cons_succ]
          refine wpAnyH_take (i := 17) (v := ?v7) rfl (by kernel_rfl) (by kernel_rfl) (by kernel_rfl) (fun _ _ _ h => h) (Or.inl ⟨by rfl, ?y7⟩) hHeld ?r7
          case y7 => (intro w hSw; go_simp; try with_reducible rfl)
          simp only [Act.put, List.getElem_toArray, List.getElem_cons_succ, List.getElem_cons_zero, List.setIfInBounds_toArray, List.set_cons_zero, List.set_cons_succ]
          refine wpAnyH_done (by kernel_rfl) ?_ _
          have HFin := Lib.hid hHeld
          clear hHeld
          go_wp2_with fail
          go_meet
          case rel => exact Lib.hid (HClose.out _ HFin.out)
      · have hez : (er != 0) = true := by simpa using he
        rw [hez]
        have huz : v = Z := by
          rcases HANY.out with ⟨_, h⟩ | ⟨t, k, h, _⟩
          · rw [← HV.out, h, HZS.out]
          · injection h with _ h
            exact absurd HER.out (by rw [h]; exact fun h => he h.symm)
        subst huz
        have heq := HZ0E.out
        go_wp2_with ((with_reducible refine ld_row HU5.out Try.underlying27 HVI.out ?_ ?_); rfl)
        go_meet
        case rel => exact Lib.hid ⟨HBB5.out, HK5.out⟩
    case rest =>
      have HBE := Lib.hid hcut.out.1
      have HKE := Lib.hid hcut.out.2
      clear hcut HANY HVI HV1 HZ0V HV HUL HER HERR HU5 HX5 HBB5 HR5 HK5 hcX hbu hz3
      obtain ⟨WE, hWE⟩ : ∃ WE, wc = WE := ⟨_, rfl⟩
      rw [hWE] at HBE HKE ⊢
      clear hWE
      obtain ⟨ck, hck⟩ : ∃ ck, chk z1 = ck := ⟨_, rfl⟩
      have HCH : Hid (∀ w, Calls Try.prog 12 #[.agg tv] w fun r w' => r = .returned (.int .i64 ck) ∧ w' = w.alloc (.cells tv 27)) := by
        refine Lib.hid fun w => ?_
        rw [← HZV.out, ← hck]
        exact check z1 w HZL.out
      have HPB : Hid (ck ≠ 0 → ∀ g w, Calls Try.prog 14 #[.agg tv, .pointer (some ⟨g, 0, none⟩)] w fun r w' => r = .returned (.int .i64 ck) ∧ Keeps (fun _ => False) w w') := fun h0 g w => put_bad g z1 tv ck w HZL.out HZV.out hck h0
      by_cases hfine : Fine z1
      · have HFN := Lib.hid hfine
        go_wp2_with ((with_reducible refine ld_row HBE.out Try.underlying27 HZI.out ?_ ?_); rfl)
        go_loopw [10, 11, 52] (fun wv s i wr => ∃ d : Nat, d ≤ 256 ∧ wv = .int .i64 0 ∧ s = .int .i64 ((z1.take d).sum) ∧ i = .int .i64 (d : Int) ∧ wr = WE) (fun _ _ i _ => 256 - (intOf i).toNat)
        case atStart => exact ⟨0, by omega, rfl, rfl, rfl, rfl⟩
        case round =>
          obtain ⟨d, hd, rfl, rfl, rfl, rfl⟩ := hrel
          obtain ⟨s, hs⟩ : ∃ s, (z1.take d).sum = s := ⟨_, rfl⟩
          have hsb : 0 ≤ s ∧ s ≤ 1048576 := by
            have h := Fine.sum (l := z1.take d) fun x hx => HFN.out x (List.mem_of_mem_take hx)
            have h2 : (z1.take d).length ≤ 256 := by simp [HZL.out]; omega
            omega
          rw [hs]
          by_cases hlt : d < 256
          · obtain ⟨x, hx⟩ : ∃ x, z1.getD d 0 = x := ⟨_, rfl⟩
            have hxb : 0 ≤ x ∧ x ≤ 4096 := by rw [← hx]; exact HFN.out _ (getD_mem (by rw [HZL.out]; exact hlt))
            have hgd : ∀ w, (Instr.index 27 (.agg tv) (.int .i64 (d : Int))).run Try.prog w = .ok (.int .i64 x) w := run_idx 27 256 Try.underlying27 tv .i64 d _ hlt (by rw [HZG.out d hlt, hx])
            have HS : Hid ((z1.take (d + 1)).sum = s + x) := by show _ = _; rw [sum_next (by rw [HZL.out]; exact hlt), hs, hx]
            have hd1 : (d : Int) < 256 := by omega
            have h0 : ¬ x < 0 := by omega
            have h1 : ¬ 4096 < x := by omega
            have hw : IntKind.i64.wrap (s + x) = s + x := IntWalk.i64_in _ (by omega)
            clear hx hs
            go_wp2_with fail
            exact ⟨⟨d + 1, by omega, rfl, by rw [HS.out], by go_num, trivial⟩, by simp [intOf]; omega⟩
          · obtain rfl : d = 256 := by omega
            have hse : z1.sum = s := by rw [← hs, List.take_of_length_le (by rw [HZL.out]; omega)]
            by_cases h4 : s = 4096
            · have hc0 : ck = 0 := by rw [← hck, chk, if_pos hfine, if_pos (by omega)]
              have h40 : (s != 4096) = false := by rw [h4]; decide
              subst hc0
              clear hs hse hck hlt h4
              go_upto_region 25 with fail
              have hw0 := new_of 40 (by decide) wr
              obtain ⟨g3, hg3⟩ : ∃ g3, wr.heap.size = g3 := ⟨_, rfl⟩
              have hk0 : Keeps (fun _ => False) wr (wr.alloc (.cells #[.slice none 0 0] 40)) := (Keeps.refl _ _).alloc _
              generalize wr.alloc (.cells #[.slice none 0 0] 40) = WF at hw0 hk0 ⊢
              rw [hg3] at hw0 ⊢
              have HWF := Lib.hid hw0
              have HBF := Lib.hid (HBE.out.keeps hk0 id)
              have HKF := Lib.hid (HKE.out.trans hk0)
              clear hw0 hk0 hg3
              go_wp2_with (first
                | (go_at_call 12; refine (HCH.out _).mono ?_; rintro e wG ⟨rfl, hwG⟩; have hkG : Keeps (fun _ => False) WF wG := (by rw [hwG]; exact (Keeps.refl _ _).alloc _); have HKG := Lib.hid (HKF.out.trans hkG); have HBG := Lib.hid (HBF.out.keeps hkG id); have HWG := Lib.hid (HWF.out.keeps hkG (fun _ _ h => h)); clear hwG hkG)
                | ((with_reducible refine ld_row_g HBF.out Try.underlying27 HZI.out ?_ ?_ ?_); rfl; rfl))
              go_ret
              exact ⟨rfl, HKG.out.below (Nat.le_refl _) (fun _ h => h.elim)⟩
            · have hc8 : ck = 8 := by rw [← hck, chk, if_pos hfine, if_neg (by omega)]
              have h40 : (s != 4096) = true := by simpa using h4
              subst hc8
              clear hs hse hck hlt
              replace HPB := Lib.hid (HPB.out (by decide))
              go_upto_region 25 with fail
              have hw0 := new_of 40 (by decide) wr
              obtain ⟨g3, hg3⟩ : ∃ g3, wr.heap.size = g3 := ⟨_, rfl⟩
              have hk0 : Keeps (fun _ => False) wr (wr.alloc (.cells #[.slice none 0 0] 40)) := (Keeps.refl _ _).alloc _
              generalize wr.alloc (.cells #[.slice none 0 0] 40) = WF at hw0 hk0 ⊢
              rw [hg3] at hw0 ⊢
              have HWF := Lib.hid hw0
              have HBF := Lib.hid (HBE.out.keeps hk0 id)
              have HKF := Lib.hid (HKE.out.trans hk0)
              clear hw0 hk0 hg3
              go_wp2_with (first
                | (go_at_call 12; refine (HCH.out _).mono ?_; rintro e wG ⟨rfl, hwG⟩; have hkG : Keeps (fun _ => False) WF wG := (by rw [hwG]; exact (Keeps.refl _ _).alloc _); have HKG := Lib.hid (HKF.out.trans hkG); have HBG := Lib.hid (HBF.out.keeps hkG id); have HWG := Lib.hid (HWF.out.keeps hkG (fun _ _ h => h)); clear hwG hkG)
                | (go_at_call 14; refine (HPB.out g3 _).mono ?_; rintro e wH ⟨rfl, hkH⟩; have HKH := Lib.hid (HKG.out.trans hkH); have HWH := Lib.hid (HWG.out.keeps hkH (fun _ _ h => h)); clear hkH)
                | (go_at_call 22; refine (Ww.len_n g3 g3 _ [] 0 _ rfl HWH.out).mono ?_; rintro e wI ⟨rfl, rfl⟩)
                | ((with_reducible refine ld_row_g HBF.out Try.underlying27 HZI.out ?_ ?_ ?_); rfl; rfl)
                | ((with_reducible refine ld_row_g HBG.out Try.underlying27 HZI.out ?_ ?_ ?_); rfl; rfl))
              go_ret
              exact ⟨rfl, HKH.out.below (Nat.le_refl _) (fun _ h => h.elim)⟩
      · have HNF := Lib.hid hfine
        have hc2 : ck = 2 := by rw [← hck, chk, if_neg hfine]
        subst hc2
        replace HPB := Lib.hid (HPB.out (by decide))
        clear hck
        go_wp2_with ((with_reducible refine ld_row HBE.out Try.underlying27 HZI.out ?_ ?_); rfl)
        go_loopw [11, 52] (fun s i wr => ∃ d : Nat, d ≤ 256 ∧ s = .int .i64 ((z1.take d).sum) ∧ i = .int .i64 (d : Int) ∧ wr = WE ∧ Hid (Fine (z1.take d))) (fun _ i _ => 256 - (intOf i).toNat)
        case atStart => exact ⟨0, by omega, rfl, rfl, rfl, Lib.hid (by simp [Fine])⟩
        case round =>
          obtain ⟨d, hd, rfl, rfl, rfl, HFT⟩ := hrel
          obtain ⟨s, hs⟩ : ∃ s, (z1.take d).sum = s := ⟨_, rfl⟩
          have hsb : 0 ≤ s ∧ s ≤ 1048576 := by
            have h := HFT.out.sum
            have h2 : (z1.take d).length ≤ 256 := by simp [HZL.out]; omega
            omega
          rw [hs]
          have hlt : d < 256 := by
            rcases Nat.lt_or_ge d 256 with h | h
            · exact h
            · exfalso
              apply HNF.out
              have := HFT.out
              rwa [List.take_of_length_le (by rw [HZL.out]; omega)] at this
          obtain ⟨x, hx⟩ : ∃ x, z1.getD d 0 = x := ⟨_, rfl⟩
          have hgd : ∀ w, (Instr.index 27 (.agg tv) (.int .i64 (d : Int))).run Try.prog w = .ok (.int .i64 x) w := run_idx 27 256 Try.underlying27 tv .i64 d _ hlt (by rw [HZG.out d hlt, hx])
          have hd1 : (d : Int) < 256 := by omega
          by_cases hbad : x < 0 ∨ 4096 < x
          · rcases hbad with h0 | h0
            · clear hx hs
              go_upto_region 25 with fail
              have hw0 := new_of 40 (by decide) wr
              obtain ⟨g3, hg3⟩ : ∃ g3, wr.heap.size = g3 := ⟨_, rfl⟩
              have hk0 : Keeps (fun _ => False) wr (wr.alloc (.cells #[.slice none 0 0] 40)) := (Keeps.refl _ _).alloc _
              generalize wr.alloc (.cells #[.slice none 0 0] 40) = WF at hw0 hk0 ⊢
              rw [hg3] at hw0 ⊢
              have HWF := Lib.hid hw0
              have HBF := Lib.hid (HBE.out.keeps hk0 id)
              have HKF := Lib.hid (HKE.out.trans hk0)
              clear hw0 hk0 hg3
              go_wp2_with (first
                | (go_at_call 12; refine (HCH.out _).mono ?_; rintro e wG ⟨rfl, hwG⟩; have hkG : Keeps (fun _ => False) WF wG := (by rw [hwG]; exact (Keeps.refl _ _).alloc _); have HKG := Lib.hid (HKF.out.trans hkG); have HBG := Lib.hid (HBF.out.keeps hkG id); have HWG := Lib.hid (HWF.out.keeps hkG (fun _ _ h => h)); clear hwG hkG)
                | (go_at_call 14; refine (HPB.out g3 _).mono ?_; rintro e wH ⟨rfl, hkH⟩; have HKH := Lib.hid (HKG.out.trans hkH); have HWH := Lib.hid (HWG.out.keeps hkH (fun _ _ h => h)); clear hkH)
                | (go_at_call 22; refine (Ww.len_n g3 g3 _ [] 0 _ rfl HWH.out).mono ?_; rintro e wI ⟨rfl, rfl⟩)
                | ((with_reducible refine ld_row_g HBF.out Try.underlying27 HZI.out ?_ ?_ ?_); rfl; rfl)
                | ((with_reducible refine ld_row_g HBG.out Try.underlying27 HZI.out ?_ ?_ ?_); rfl; rfl))
              go_ret
              exact ⟨rfl, HKH.out.below (Nat.le_refl _) (fun _ h => h.elim)⟩
            · have h00 : ¬ x < 0 := by omega
              clear hx hs
              go_upto_region 25 with fail
              have hw0 := new_of 40 (by decide) wr
              obtain ⟨g3, hg3⟩ : ∃ g3, wr.heap.size = g3 := ⟨_, rfl⟩
              have hk0 : Keeps (fun _ => False) wr (wr.alloc (.cells #[.slice none 0 0] 40)) := (Keeps.refl _ _).alloc _
              generalize wr.alloc (.cells #[.slice none 0 0] 40) = WF at hw0 hk0 ⊢
              rw [hg3] at hw0 ⊢
              have HWF := Lib.hid hw0
              have HBF := Lib.hid (HBE.out.keeps hk0 id)
              have HKF := Lib.hid (HKE.out.trans hk0)
              clear hw0 hk0 hg3
              go_wp2_with (first
                | (go_at_call 12; refine (HCH.out _).mono ?_; rintro e wG ⟨rfl, hwG⟩; have hkG : Keeps (fun _ => False) WF wG := (by rw [hwG]; exact (Keeps.refl _ _).alloc _); have HKG := Lib.hid (HKF.out.trans hkG); have HBG := Lib.hid (HBF.out.keeps hkG id); have HWG := Lib.hid (HWF.out.keeps hkG (fun _ _ h => h)); clear hwG hkG)
                | (go_at_call 14; refine (HPB.out g3 _).mono ?_; rintro e wH ⟨rfl, hkH⟩; have HKH := Lib.hid (HKG.out.trans hkH); have HWH := Lib.hid (HWG.out.keeps hkH (fun _ _ h => h)); clear hkH)
                | (go_at_call 22; refine (Ww.len_n g3 g3 _ [] 0 _ rfl HWH.out).mono ?_; rintro e wI ⟨rfl, rfl⟩)
                | ((with_reducible refine ld_row_g HBF.out Try.underlying27 HZI.out ?_ ?_ ?_); rfl; rfl)
                | ((with_reducible refine ld_row_g HBG.out Try.underlying27 HZI.out ?_ ?_ ?_); rfl; rfl))
              go_ret
              exact ⟨rfl, HKH.out.below (Nat.le_refl _) (fun _ h => h.elim)⟩
          · have HS : Hid ((z1.take (d + 1)).sum = s + x) := by show _ = _; rw [sum_next (by rw [HZL.out]; exact hlt), hs, hx]
            have HF1 : Hid (Fine (z1.take (d + 1))) := HFT.out.next (by rw [HZL.out]; exact hlt) (by rw [hx]; omega)
            have h0 : ¬ x < 0 := by omega
            have h1 : ¬ 4096 < x := by omega
            have hw : IntKind.i64.wrap (s + x) = s + x := IntWalk.i64_in _ (by omega)
            clear hx hs hbad
            go_wp2_with fail
            exact ⟨⟨d + 1, by omega, by rw [HS.out], by go_num, trivial, HF1⟩, by simp [intOf]; omega⟩

set_option maxRecDepth 100000 in
theorem lifted (os : Os) (started : os.Started) (H : Type) (enc : TypeId × Value → H) :
    ReturnsInHanded {} Try.checked os 5 .any (Rows.freqAnySpec.pre6 enc Try.prog Try.f5 Rows.freqAnyRow.domain false) (Rows.freqAnySpec.post enc Try.prog Try.f5 false true false false) := by
  refine returnsInHanded_of_change (C := Try.checked) own started (by kernel_rfl) Try.func5
    (ChangeSpec.witness6 (enc := enc) (C := Try.checked) false ⟨#[], #[.slice none 0 0, .agg (Array.replicate 256 (.int .i64 0)), .int .u8 0], []⟩ 8 (by kernel_rfl) (by kernel_rfl) (by kernel_rfl) (by kernel_rfl)) ?_
  intro W base args ds gs before hval0 hW hcnd _
  have hval : ∀ (j : Nat) t v, Try.f5.params[j]? = some t → args[j]? = some v → Value.okWide Try.prog W .any base t v := hval0
  have hW' := hW
  obtain ⟨p, q, hA0, hV, rfl, hfz, hnd⟩ := hW
  have hA : DataW.TrodAll enc Try.prog W 0 (fun _ => true) true Try.f5.params.toList args.toList ds p := hA0
  rw [Try.params5] at hA hval
  obtain ⟨v0, vs0, d0, ds0, p0, q0, hargs, rfl, rfl, h0, r0⟩ := trodAll_cons hA
  obtain ⟨v1, vs1, d1, ds1, p1, q1, rfl, rfl, rfl, h1, r1⟩ := trodAll_cons r0
  obtain ⟨v2, vs2, d2, ds2, p2, q2, rfl, rfl, rfl, h2, r2⟩ := trodAll_cons r1
  obtain ⟨rfl, rfl, rfl⟩ := trodAll_nil r2
  obtain rfl : args = #[v0, v1, v2] := by cases args; simp_all
  obtain ⟨rfl, rfl⟩ := trodVars_none hV
  obtain ⟨a0, len0, cap0, rfl⟩ := okWide_slice Try.underlying22 (hval 0 22 v0 rfl rfl)
  have k0 := h0
  have lt0 : ∀ x ∈ p0, x.block < W.heap.size := by obtain ⟨m, hm⟩ := k0; exact DataW.trod_lt m _ _ _ hm
  obtain ⟨z0, w0⟩ : ∃ zs, IsRow .u8 W a0 len0 cap0 zs := by
    obtain ⟨fuel, hf⟩ := h0
    exact open_row Try.underlying22 Try.underlying5 (by kernel_rfl) hf
  obtain ⟨cs1, rfl, hs1⟩ := okw_arr Try.underlying27 (by kernel_rfl) (hval 1 27 v1 rfl rfl)
  have k1 := h1
  have lt1 : ∀ x ∈ p1, x.block < W.heap.size := by obtain ⟨m, hm⟩ := k1; exact DataW.trod_lt m _ _ _ hm
  obtain ⟨z1, w1, hz1⟩ : ∃ zs : List Int, (zs.length = 256 ∧ ∀ x ∈ zs, (Lit.int .i64 x).wf = true) ∧ cs1 = (zs.map (Value.int .i64)).toArray := by
    obtain ⟨fuel, hf⟩ := h1
    exact open_arr Try.underlying27 Try.underlying3 (by kernel_rfl) hs1 hf
  subst hz1
  obtain ⟨a2, rfl, rfl, rfl, w2⟩ := open_int Try.underlying5 (hval 2 5 v2 rfl rfl) h2
  clear hA0 hval0
  refine (walk a0 len0 cap0 z0 z1 a2 W w0 w1 w2).mono fun e W' ⟨he, bel⟩ => ?_
  subst he
  exact ⟨_, rfl, _, _, _, [], _, [], hW', trodAll_mk1 (shut_bool Try.underlying4 _), (trodAll_cons_mk (Below.trod laidOut (by kernel_rfl) (of_decide_eq_true (by kernel_rfl)) k0 bel lt0) (trodAll_cons_mk (Below.trod laidOut (by kernel_rfl) (of_decide_eq_true (by kernel_rfl)) k1 bel lt1) (trodAll_cons_mk (shut_int Try.underlying5 w2) trodAll_mk0))), rfl, bel.frame _, fun h => by cases h⟩

theorem over : Rows.freqAnyRow.holds Try.pinned (OpenSpec.ofChange Rows.freqAnySpec) :=
  OpenClaim.holds_of_wide 5 Try.f5 rfl rfl rfl rfl rfl rfl rfl ⟨rfl, rfl, rfl, rfl, rfl⟩ rfl rfl rfl rfl rfl (by kernel_rfl) Try.func5 (by kernel_rfl)
    (of_decide_eq_true (by kernel_rfl)) (by unfold Func.isWrapper; first | (rw [if_pos (by decide +kernel)]; kernel_rfl) | (rw [if_neg (by decide +kernel)]; exact ⟨rfl, rfl⟩))
    (fun os started H enc _ => lifted os started H enc)

/-- The statement, as given. -/
theorem proved : Rows.FreqAnySaid :=
  over
end Go.Proofs.Ytjidgiobnlolpaa.freqAny
namespace Go.Proofs.Ytjidgiobnlolpaa
/-- The statement, as given. -/
theorem freqAny_holds : Rows.FreqAnySaid := freqAny.proved
#print axioms freqAny_holds
end Go.Proofs.Ytjidgiobnlolpaa
