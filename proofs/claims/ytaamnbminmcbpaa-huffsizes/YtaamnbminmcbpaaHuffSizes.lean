/- The statement HuffSizes (P5.1: any counts: sizes that words can have, none left over, as few bits as may be) holds for every input: the Go function answers true, and its arguments read as before. No conditions beyond the row's own. -/
import Derived.Test.YtaamnbminmcbpaaRows
import Derived.WalkKit
import Derived.ProofKit
import Derived.OpenShut
import Derived.ShutString
import Derived.ChangeOld
import Derived.Below
import Derived.Test.YtaamnbminmcbpaaHufLs
import Derived.Outline
import Derived.RegionTactic
import Derived.ChangeAlike
import Derived.BigQuiet
import Derived.Deep.Slices
import Derived.Deep.SlicePairs
namespace Go.Proofs.Ytaamnbminmcbpaa.huffSizes
open Go.ChangeShapes Go.WideShapes Go.ChangeAt Go.RowKit Go.Deep
open Go.Proofs.Ytaamnbminmcbpaa.Gen Go.Proofs.Ytaamnbminmcbpaa.Mp Go.Proofs.Ytaamnbminmcbpaa.Hr Go.Proofs.Ytaamnbminmcbpaa.Hp Go.Proofs.Ytaamnbminmcbpaa.Hm Go.Proofs.Ytaamnbminmcbpaa.Hg Go.Proofs.Ytaamnbminmcbpaa.So Go.Proofs.Ytaamnbminmcbpaa.Hs Go.Proofs.Ytaamnbminmcbpaa.Hf Go.Proofs.Ytaamnbminmcbpaa.Hz Go.Proofs.Ytaamnbminmcbpaa.Ha Go.Proofs.Ytaamnbminmcbpaa.Hc Go.Proofs.Ytaamnbminmcbpaa.Hw Go.Proofs.Ytaamnbminmcbpaa.Ln Go.Proofs.Ytaamnbminmcbpaa.Bp Go.Proofs.Ytaamnbminmcbpaa.Hx Go.Proofs.Ytaamnbminmcbpaa.Hn Go.Proofs.Ytaamnbminmcbpaa.Hk Go.Proofs.Ytaamnbminmcbpaa.Hu Go.Proofs.Ytaamnbminmcbpaa.Hb Go.Proofs.Ytaamnbminmcbpaa.Nd
set_option linter.unusedVariables false

theorem own : ownKnob Try.prog.godebug = none := by kernel_rfl
theorem laidOut : laidOutB Try.prog = true := by kernel_rfl

/-- What the walk is told of a slice of integers that came in: it is nil, or a row of cells that hold zs, each of which fits. -/
def IsRow (k : IntKind) (w : World) (a : Option Addr) (len cap : Nat) (zs : List Int) : Prop :=
  (a = none ∧ len = 0 ∧ cap = 0 ∧ zs = []) ∨
  ∃ x, a = some x ∧ len ≤ cap ∧ cap ≤ maxLen ∧ zs.length = cap ∧ (∀ i, i < zs.length → w.cell? (x.add i) = some (.int k (zs.getD i 0))) ∧ ∀ n ∈ zs, (Lit.int k n).wf = true
/-- And of a slice of such slices: it is nil, or each of its cells holds one. -/
def IsRows (k : IntKind) (w : World) (a : Option Addr) (len cap : Nat) : Prop :=
  (a = none ∧ len = 0 ∧ cap = 0) ∨
  ∃ x, a = some x ∧ len ≤ cap ∧ cap ≤ maxLen ∧ ∀ i, i < len → ∃ b n c zs, w.cell? (x.add i) = some (.slice b n c) ∧ IsRow k w b n c zs
/-- And of a slice of structs of two integers. -/
def IsPairs (k0 k1 : IntKind) (w : World) (a : Option Addr) (len cap : Nat) (zs : List (Int × Int)) : Prop :=
  (a = none ∧ len = 0 ∧ cap = 0 ∧ zs = []) ∨
  ∃ x, a = some x ∧ len ≤ cap ∧ cap ≤ maxLen ∧ zs.length = cap ∧ ∀ i, i < zs.length → w.cell? (x.add (i * 2)) = some (.int k0 (zs.getD i (0, 0)).1) ∧ w.cell? (x.add (i * 2 + 1)) = some (.int k1 (zs.getD i (0, 0)).2) ∧ (Lit.int k0 (zs.getD i (0, 0)).1).wf = true ∧ (Lit.int k1 (zs.getD i (0, 0)).2).wf = true
section
variable {H : Type} {enc : TypeId × Value → H} {W : World}
theorem open_pairs {t e : TypeId} {k0 k1 : IntKind} {f0 f1 : Field} {fuel : Nat} {a : Option Addr} {len cap : Nat} {x : DataW H × List MemPlace} (ht : Try.prog.underlying t = some (.slice e)) (he : Try.prog.underlying e = some (.struct #[f0, f1])) (h0 : Try.prog.underlying f0.type = some (.int k0)) (h1 : Try.prog.underlying f1.type = some (.int k1))
    (ce : Try.prog.cellsOf e = 2) (o0 : f0.offset = 0) (o1 : f1.offset = 1) (c0 : Try.prog.cellsOf f0.type = 1) (c1 : Try.prog.cellsOf f1.type = 1)
    (hf : DataW.trod enc Try.prog W 0 (fun _ => true) true fuel t (Value.slice a len cap).cells.toList = some x) : ∃ zs, IsPairs k0 k1 W a len cap zs := by
  rcases open_slice_pairs ht he ce o0 o1 c0 c1 hf with ⟨hcs, _⟩ | ⟨y, l, c, m, n, V0, V1, D0, D1, P0, P1, hcs, _, hl, hm, hmm, _, hi⟩
  · simp [Value.cells] at hcs
    obtain ⟨rfl, rfl, rfl⟩ := hcs
    exact ⟨[], .inl ⟨rfl, rfl, rfl, rfl⟩⟩
  · simp [Value.cells] at hcs
    obtain ⟨rfl, rfl, rfl⟩ := hcs
    simp only [if_true] at hmm
    refine ⟨(List.range cap).map fun i => (intOf (V0 i), intOf (V1 i)), .inr ⟨y, rfl, hl, hm, by simp, fun i hil => ?_⟩⟩
    have hic : i < cap := by simpa using hil
    obtain ⟨g0, g1, g2, g3⟩ := hi i (by omega)
    obtain ⟨n0, e0, _, w0⟩ := DataW.trod_int h0 g2
    obtain ⟨n1, e1, _, w1⟩ := DataW.trod_int h1 g3
    injection e0 with e0
    injection e1 with e1
    rw [e0] at g0
    rw [e1] at g1
    have hz : ((List.range cap).map fun i => (intOf (V0 i), intOf (V1 i))).getD i (0, 0) = (n0, n1) := by
      simp [List.getD_eq_getElem?_getD, hic, e0, e1, intOf]
    rw [hz]
    exact ⟨g0, g1, w0, w1⟩
theorem open_row {t e : TypeId} {k : IntKind} {fuel : Nat} {a : Option Addr} {len cap : Nat} {x : DataW H × List MemPlace} (ht : Try.prog.underlying t = some (.slice e)) (he : Try.prog.underlying e = some (.int k)) (h1 : Try.prog.cellsOf e = 1)
    (hf : DataW.trod enc Try.prog W 0 (fun _ => true) true fuel t (Value.slice a len cap).cells.toList = some x) : ∃ zs, IsRow k W a len cap zs := by
  rcases open_ints ht he h1 hf with ⟨hcs, _⟩ | ⟨x, l, c, zs, hcs, _, hl, hm, hz, _, hcell, hwz⟩
  · simp [Value.cells] at hcs
    obtain ⟨rfl, rfl, rfl⟩ := hcs
    exact ⟨[], .inl ⟨rfl, rfl, rfl, rfl⟩⟩
  · simp [Value.cells] at hcs
    obtain ⟨rfl, rfl, rfl⟩ := hcs
    exact ⟨zs, .inr ⟨_, rfl, hl, hm, by simpa using hz, hcell, hwz⟩⟩
theorem open_rows {t e g : TypeId} {k : IntKind} {fuel : Nat} {a : Option Addr} {len cap : Nat} {x : DataW H × List MemPlace} (ht : Try.prog.underlying t = some (.slice e)) (he : Try.prog.underlying e = some (.slice g)) (hg : Try.prog.underlying g = some (.int k)) (h1 : Try.prog.cellsOf e = 1) (h2 : Try.prog.cellsOf g = 1)
    (hf : DataW.trod enc Try.prog W 0 (fun _ => true) true fuel t (Value.slice a len cap).cells.toList = some x) : IsRows k W a len cap := by
  rcases open_slice ht hf with ⟨hcs, _⟩ | ⟨x, l, c, m, n, D, Pl, hcs, _, hl, hm, hmm, _, hi⟩
  · simp [Value.cells] at hcs
    obtain ⟨rfl, rfl, rfl⟩ := hcs
    exact .inl ⟨rfl, rfl, rfl⟩
  · simp [Value.cells] at hcs
    obtain ⟨rfl, rfl, rfl⟩ := hcs
    refine .inr ⟨x, rfl, hl, hm, fun i hil => ?_⟩
    simp only [if_true] at hmm
    obtain ⟨cs, hc, htr⟩ := hi i (by omega)
    rw [h1, Nat.mul_one] at hc
    obtain ⟨_, hlen, hat⟩ := World.cells?_some hc
    have h0 := hat 0 (by omega)
    have ha0 : (x.add i).add 0 = x.add i := by rw [Go.Deep.add_add]; rfl
    rw [ha0] at h0
    rcases open_ints he hg h2 htr with ⟨hcs, _⟩ | ⟨y, l', c', zs, hcs, _, hl', hm', hz, _, hcell, hwz⟩
    · subst hcs
      exact ⟨none, 0, 0, [], by simpa using h0, .inl ⟨rfl, rfl, rfl, rfl⟩⟩
    · subst hcs
      exact ⟨some y, l', c', zs, by simpa using h0, .inr ⟨y, rfl, hl', hm', by simpa using hz, hcell, hwz⟩⟩
end
def cints (m : List (Int × Nat)) : List (Int × Int) := m.map fun p => (p.1, (p.2 : Int))
theorem mi_cints (m : List (Int × Nat)) : mi (cints m) = mv m := by simp [mi, cints, mv, Function.comp_def]
theorem nats_cints (m : List (Int × Nat)) : nats (cints m) = m := by
  simp only [nats, cints, List.map_map]
  conv => rhs; rw [← List.map_id m]
  exact List.map_congr_left fun p _ => by simp
theorem cints_len (m : List (Int × Nat)) : (cints m).length = m.length := by simp [cints]
theorem cints_good {m : List (Int × Nat)} (h : Small m) : ∀ p ∈ cints m, Hz.Good p := by
  intro p hp
  simp only [cints, List.mem_map] at hp
  obtain ⟨q, hq, rfl⟩ := hp
  have := h q hq
  unfold Hz.Good
  simp only
  omega
theorem len_run {w : World} {b n : Nat} {m : List (Lit × Value)} (h : IsM Try.prog 3 w b m) (hn : m.length = n) (ty : TypeId) : (Builtin.len_ #[24] ty #[.map (some b)]).run Try.prog w = .ok (.int .i64 (n : Int)) w := by
  obtain ⟨D, h1, h3⟩ := h
  rw [h1.len Try.underlying24 ty, h3.size, hn]
/-- Counts times sizes of the first d. -/
def sumAt (m L : List (Int × Nat)) (d : Nat) : Nat := ((L.take d).map fun p => cnt m p.1 * p.2).sum
theorem take_one {L : List (Int × Nat)} {d : Nat} (h : d < L.length) : L.take (d + 1) = L.take d ++ [L.getD d (0, 0)] := by
  rw [List.take_add_one, List.getElem?_eq_getElem h, List.getD, List.getElem?_eq_getElem h]
  simp
theorem sumAt_next {m L : List (Int × Nat)} {d : Nat} (h : d < L.length) : sumAt m L (d + 1) = sumAt m L d + cnt m (L.getD d (0, 0)).1 * (L.getD d (0, 0)).2 := by
  rw [sumAt, take_one h, List.map_append, List.sum_append, sumAt]
  simp
theorem posAt_next {L : List (Int × Nat)} {d : Nat} (h : d < L.length) : posOf (L.take (d + 1)) = posOf (L.take d) + 2 ^ (20 - (L.getD d (0, 0)).2) := by
  rw [take_one h, posOf_app, posOf_one]
theorem pos_le (L : List (Int × Nat)) (d : Nat) : posOf (L.take d) ≤ posOf L := by
  have := congrArg posOf (List.take_append_drop d L)
  rw [posOf_app] at this
  omega
theorem sumAt_le {m L : List (Int × Nat)} (h1 : ∀ x, cnt m x ≤ 999) (h2 : ∀ p ∈ L, p.2 ≤ 20) : ∀ d, d ≤ L.length → sumAt m L d ≤ 19980 * d
  | 0, _ => by simp [sumAt]
  | d + 1, h => by
    have ih := sumAt_le h1 h2 d (by omega)
    rw [sumAt_next (by omega)]
    have hm : L.getD d (0, 0) ∈ L := by rw [List.getD_eq_getElem?_getD, List.getElem?_eq_getElem (by omega)]; simp
    have := Nat.mul_le_mul (h1 (L.getD d (0, 0)).1) (h2 _ hm)
    omega
/-- The counts as they stand, and as the numbers give them. -/
theorem counts_perm {m : List (Int × Nat)} (hd : (m.map (·.1)).Nodup) {N : List Int} (hN : N.Perm (m.map (·.1))) : (m.map (·.2)).Perm (N.map (cnt m)) := by
  have h1 : m.map (·.2) = (m.map (·.1)).map (cnt m) := by
    rw [List.map_map]
    exact List.map_congr_left fun p hp => (cnt_mem hd hp).symm
  rw [h1]
  exact (hN.map _).symm
theorem sum_least {m L : List (Int × Nat)} (hd : (m.map (·.1)).Nodup) (hs : SizesAre m L) (h0 : 0 < m.length) (h1 : m.length ≤ 256) {N0 : List (Nat × Nat)} {s H : Nat} (hM : Merges N0 s H) (hp : (N0.map (·.1)).Perm (m.map (·.2))) (hH : H ≤ 20) : sumAt m L L.length = s := by
  obtain ⟨N, n1, n2, n3⟩ := hs.ex
  have hl : N.length = m.length := by rw [n1.length_eq, List.length_map]
  have hc := same_cost (N.map (cnt m)) (by rw [List.pairwise_map]; exact n2) (by rw [List.length_map]; omega) (by rw [List.length_map]; omega) hM (hp.trans (counts_perm hd n1)) hH
  rw [← hc, sumAt, List.take_length, cost, (n3.map _).sum_nat]
  congr 1
  rw [List.zip_map_left, List.map_map]
  rfl
set_option maxHeartbeats 40000000 in
set_option maxRecDepth 100000 in
theorem walk (a0 : Option Addr) (len0 cap0 : Nat) (z0 : List (Int × Int)) (w : World) (w0 : IsPairs .i16 .u16 w a0 len0 cap0 z0) :
    Calls Try.prog 3 #[.slice a0 len0 cap0] w fun e w' => e = .returned (.bool true) ∧ Below w.heap.size w w' := by
  have HP := Lib.hid (pairs_at w0)
  clear w0
  go_enter Try.func3, Try.ntmps3
  go_wp2_with fail
  refine (awake_ _).mono ?_
  rintro e w1 ⟨rfl, hk1⟩
  have HK1 := Lib.hid hk1
  clear hk1
  by_cases hbig : 300 < len0
  · have hbi : (300 : Int) < (len0 : Int) := by omega
    clear hbig
    go_wp2
    go_ret
    exact ⟨rfl, HK1.out.below (Nat.le_refl _) (fun _ h => h.elim)⟩
  have hbi : ¬ ((300 : Int) < (len0 : Int)) := by omega
  have hle : len0 ≤ 1000 := by omega
  clear hbig
  go_wp2_with fail
  refine (counts_ a0 len0 cap0 40 w1 (HP.out.keeps HK1.out) hle (by omega)).mono ?_
  rintro e w2 ⟨b, rfl, m, him, hb, hml, hsm, hk2⟩
  have HM2 : Hid (IsM Try.prog 3 w2 b (mi (cints m))) := by show IsM _ _ _ _ _; rw [mi_cints]; exact him
  have HND : Hid ((m.map (·.1)).Nodup) := mv_nd him.nd
  obtain ⟨n, hn⟩ : ∃ n, n = m.length := ⟨_, rfl⟩
  have HN := Lib.hid hn
  have HSM := Lib.hid hsm
  have HK2 := Lib.hid (HK1.out.trans hk2)
  rw [← hn] at hml
  clear him hk2 hsm hb hn
  go_wp2_with fail
  refine (sizes_ b n (cints m) w2 HM2.out (by rw [cints_len]; exact HN.out.symm) (by omega)).mono ?_
  rintro e w3 ⟨ha, hk3⟩
  have HM3 : Hid (IsM Try.prog 3 w3 b (mv m)) := by show IsM _ _ _ _ _; rw [← mi_cints]; exact HM2.out.keeps hk3 id
  have HK3 := Lib.hid (HK2.out.trans hk3)
  rcases ha with ⟨h0, rfl⟩ | ⟨_, ⟨p, hp, hb⟩, _⟩ | ⟨hn1, _, gl, L, rfl, hbl, hg, hLl, hs⟩
  · obtain rfl : n = 0 := by omega
    clear hk3 h0
    go_wp2_with (
      at_len
      refine wpList_len_m _ rfl _ _ rfl 3 3 Try.underlying24 b 0 (mv m) rfl HM3.out (by rw [mv_len]; exact HN.out.symm) ?_)
    go_ret
    exact ⟨rfl, HK3.out.below (Nat.le_refl _) (fun _ h => h.elim)⟩
  · exact absurd (cints_good HSM.out p hp) hb
  rw [nats_cints] at hs
  have HS := Lib.hid hs
  have HZ := Lib.hid (sizes_small hs)
  have HR : Hid (posOf L = 2 ^ 20) := sizes_room hs (by rw [← HN.out]; omega) (by rw [← HN.out]; omega)
  have HRB : Hid (posOf L ≤ 2 ^ 20) := by rw [HR.out]; exact Nat.le_refl _
  have HC1 : Hid (∀ p ∈ L, 1 ≤ cnt m p.1) := by
    intro p hp
    obtain ⟨q, hq, e⟩ := keys_from HS.out p hp
    rw [← e, cnt_mem HND.out hq]
    exact (HSM.out q hq).1.1
  have HC9 : Hid (∀ x, cnt m x ≤ 999) := fun x => cnt_le (fun p hp => (HSM.out p hp).1.2) x
  have HX : Hid (∀ p ∈ L, -2147483647 ≤ p.1 ∧ p.1 ≤ 2147483647) := by
    intro p hp
    obtain ⟨q, hq, e⟩ := keys_from HS.out p hp
    have := HSM.out q hq
    rw [← e]
    omega
  have HB := Lib.hid hbl
  have HLL := Lib.hid hLl
  obtain ⟨hn1, hn2⟩ := hn1
  have hn0 : ((n : Int) == 0) = false := by simp; omega
  clear hk3 hs hbl hg hLl HM2
  go_wp2_with (
    at_len
    refine wpList_len_m _ rfl _ _ rfl 3 3 Try.underlying24 b n (mv m) rfl HM3.out (by rw [mv_len]; exact HN.out.symm) ?_)
  refine (new_ok (some ⟨gl, 0, none⟩) n n L w3 (row_blk HB.out) HLL.out hn1 hn2 HS.out.rise HX.out HZ.out HRB.out).mono ?_
  rintro e w4 ⟨⟨p, rfl, hc⟩, hk4⟩
  have HB4 := Lib.hid (HB.out.keeps hk4 id)
  have HM4 := Lib.hid (HM3.out.keeps hk4 id)
  have HK4 := Lib.hid (HK3.out.trans hk4)
  clear hc hk4
  have hlen := len_run HM4.out (n := n) (by rw [mv_len]; exact HN.out.symm)
  go_wp2_with fail
  clear hlen
  go_loopw [8, 9, 56] (fun s r i wr => ∃ d : Nat, d ≤ n ∧ s = .int .i64 (sumAt m L d : Nat) ∧ r = .int .i64 (posOf (L.take d) : Nat) ∧ i = .int .i64 (d : Int) ∧ Hid (Keeps (fun _ => False) w4 wr)) (fun _ _ i _ => n - (intOf i).toNat)
  case atStart => exact ⟨0, by omega, rfl, rfl, rfl, Lib.hid (Keeps.refl _ _)⟩
  case round =>
    obtain ⟨d, hd, rfl, rfl, rfl, HK⟩ := hrel
    have hsl := sumAt_le HC9.out HZ.out d (by rw [HLL.out]; exact hd)
    have hpl := pos_le L d
    rw [HR.out] at hpl
    obtain ⟨s, hs⟩ : ∃ s, sumAt m L d = s := ⟨_, rfl⟩
    obtain ⟨r, hr⟩ : ∃ r, posOf (L.take d) = r := ⟨_, rfl⟩
    rw [hs] at hsl
    rw [hr] at hpl
    rw [hs, hr]
    have HM := Lib.hid (HM4.out.keeps HK.out id)
    have HB := Lib.hid (HB4.out.keeps HK.out id)
    by_cases hlt : d < n
    · have hdl : d < L.length := by rw [HLL.out]; exact hlt
      obtain ⟨b', o', hbo, _, h0, h1⟩ := EntsAt.item (w := wr) (l := L) (row_blk HB.out) hdl
      obtain ⟨rfl, rfl⟩ : b' = gl ∧ o' = 0 := by injection hbo with hbo; injection hbo with e1 e2; exact ⟨e1.symm, e2.symm⟩
      have hmem : L.getD d (0, 0) ∈ L := by rw [List.getD_eq_getElem?_getD, List.getElem?_eq_getElem hdl]; simp
      have HS1 := Lib.hid (sumAt_next (m := m) hdl)
      have HP1 := Lib.hid (posAt_next hdl)
      have hzz := HZ.out _ hmem
      have hc1 := HC1.out _ hmem
      have hxx := HX.out _ hmem
      have HPrev : Hid (0 < d → ∃ y, wr.cell? ⟨b', 0 + (d - 1) * 2, none⟩ = some (.int .i64 y) ∧ y < (L.getD d (0, 0)).1) := by
        refine Lib.hid fun hd0 => ?_
        obtain ⟨b2, o2, hbo2, _, h02, _⟩ := EntsAt.item (w := wr) (l := L) (row_blk HB.out) (j := d - 1) (by omega)
        obtain ⟨rfl, rfl⟩ : b2 = b' ∧ o2 = 0 := by injection hbo2 with hbo2; injection hbo2 with e1 e2; exact ⟨e1.symm, e2.symm⟩
        refine ⟨_, h02, ?_⟩
        have := (List.pairwise_iff_getElem.1 HS.out.rise) (d - 1) d (by omega) hdl (by omega)
        rw [List.getD_eq_getElem?_getD, List.getElem?_eq_getElem (show d - 1 < L.length by omega), List.getD_eq_getElem?_getD, List.getElem?_eq_getElem hdl]
        exact this
      obtain ⟨⟨x, z⟩, hxz⟩ : ∃ q, q = L.getD d (0, 0) := ⟨_, rfl⟩
      rw [← hxz] at h0 h1 hzz hc1 hxx HS1 HP1 HPrev
      simp only [Nat.zero_add] at h0 h1 hzz hc1 hxx HS1 HP1 HPrev
      have hc9 := HC9.out x
      have hlk := fun w' (k : Keeps (fun _ => False) wr w') => look_cnt (HM.out.keeps k id) ⟨x, wf_of (by omega)⟩
      simp only at hlk
      obtain ⟨k, hk⟩ : ∃ k, cnt m x = k := ⟨_, rfl⟩
      rw [hk] at hc1 hc9 hlk HS1
      rw [hs] at HS1
      rw [hr] at HP1
      have HLK := Lib.hid hlk
      have hd0 : (0 : Int) ≤ (d : Int) := by omega
      have hd1 : (d : Int) < (n : Int) := by omega
      clear hs hr hmem hxz hdl hbo hk hlk
      go_upto_region 16 with fail
      obtain ⟨X, hX⟩ : ∃ X, wr.heap.size = X := ⟨_, rfl⟩
      generalize hW : wr.alloc (.cells #[.int .i64 x, .int .i64 (z : Int)] 34) = W5
      have hkk : Keeps (fun _ => False) wr W5 := by rw [← hW]; exact (Keeps.refl _ _).alloc _
      have hbX : Blk W5 X 34 #[.int .i64 x, .int .i64 (z : Int)] := by rw [← hW, ← hX]; exact Blk.new _ _ _
      have hX0 : W5.cell? ⟨X, 0, none⟩ = some (.int .i64 x) := hbX.cell 0
      have hX1 : W5.cell? ⟨X, 1, none⟩ = some (.int .i64 (z : Int)) := hbX.cell 1
      have HBX := Lib.hid hbX
      have HKK := Lib.hid hkk
      have HK5 := Lib.hid (HK.out.trans hkk)
      have HBL := Lib.hid HB.out.lt
      have HPR : Hid (0 < d → ∃ y, W5.cell? ⟨b', (d - 1) * 2, none⟩ = some (.int .i64 y) ∧ y < x) := fun hd0 => by
        obtain ⟨y, h1, h2⟩ := HPrev.out hd0
        exact ⟨y, (HKK.out.cell (p := ⟨b', (d - 1) * 2, none⟩) HBL.out id).trans h1, h2⟩
      rw [hX]
      clear hX hW hkk hbX h0 h1 HPrev
      go_cut [90] from 61 to 90 (fun sl wx => sl = .bool false ∧ Hid (Keeps (fun _ => False) W5 wx))
      case first =>
        have hlk := fun q => HLK.out (W5.drewN q) (HKK.out.drewN q)
        have hk0 : ((k : Int) == 0) = false := by simp; omega
        have hk1 : (decide ((k : Int) = 0)) = false := by simp; omega
        have hz1 : decide ((20 : Int) < (z : Int)) = false := by simp; omega
        have hz2 : decide ((z : Int) < 0) = false := by rw [decide_eq_false_iff_not]; omega
        rcases Nat.eq_zero_or_pos d with rfl | hdp
        · have d5 : decide ((0 : Int) < ((0 : Nat) : Int)) = false := by simp
          go_big_quiet (fail)
          all_goals go_wp2_with fail
          all_goals go_meet
          all_goals exact ⟨by simp, Lib.hid ((Keeps.refl _ _).drewN _)⟩
        · obtain ⟨y, hy, hyx⟩ := HPR.out hdp
          obtain ⟨e, rfl⟩ : ∃ e, d = e + 1 := ⟨d - 1, by omega⟩
          rw [Nat.add_sub_cancel] at hy
          have d5 : decide ((0 : Int) < (e : Int) + 1) = true := by rw [decide_eq_true_iff]; omega
          have hsub : (e : Int) + 1 - 1 = (e : Int) := by omega
          have hwk : IntKind.i64.wrap (e : Int) = (e : Int) := by rw [IntKind.wrap_i64]; omega
          have hkn : (e : Int) < (n : Int) := by omega
          have he0 : (0 : Int) ≤ (e : Int) := by omega
          have d6 : decide (x ≤ y) = false := by simp; omega
          go_big_quiet (fail)
          all_goals go_wp2_with fail
          all_goals go_meet
          all_goals exact ⟨by simp, Lib.hid ((Keeps.refl _ _).drewN _)⟩
      case rest =>
        obtain ⟨rfl, HKC⟩ := hcut
        clear hX0 hX1 HPR
        have hX0 : wc.cell? ⟨X, 0, none⟩ = some (.int .i64 x) := (HBX.out.keeps HKC.out id).cell 0
        have hX1 : wc.cell? ⟨X, 1, none⟩ = some (.int .i64 (z : Int)) := (HBX.out.keeps HKC.out id).cell 1
        have hlk := HLK.out wc (HKK.out.trans HKC.out)
        obtain ⟨kz, hkz⟩ : ∃ kz, k * z = kz := ⟨_, rfl⟩
        have hkzb : kz ≤ 19980 := by rw [← hkz]; exact Nat.mul_le_mul hc9 hzz
        have hkzi : (k : Int) * (z : Int) = (kz : Int) := by rw [← hkz]; simp
        have hw1 : IntKind.i64.wrap (kz : Int) = (kz : Int) := IntWalk.i64_in _ (by omega)
        have hw2 : IntKind.i64.wrap ((s : Int) + (kz : Int)) = (s : Int) + (kz : Int) := IntWalk.i64_in _ (by omega)
        obtain ⟨t, ht⟩ : ∃ t, 20 - z = t := ⟨_, rfl⟩
        have hti : (20 : Int) - (z : Int) = (t : Int) := by omega
        have hw3 : IntKind.i64.wrap (t : Int) = (t : Int) := IntWalk.i64_in _ (by omega)
        obtain ⟨pw, hpw⟩ : ∃ pw, 2 ^ t = pw := ⟨_, rfl⟩
        have hpwb : pw ≤ 1048576 := by rw [← hpw]; exact Nat.pow_le_pow_right (n := 2) (by omega) (show t ≤ 20 by omega)
        have hsh : IntKind.i64.wrap ((2 : Int) ^ t) = (pw : Int) := by
          have e : ((2 : Int) ^ t) = (pw : Int) := by rw [← hpw]; simp
          rw [e]; exact IntWalk.i64_in _ (by omega)
        have hw4 : IntKind.i64.wrap ((r : Int) + (pw : Int)) = (r : Int) + (pw : Int) := IntWalk.i64_in _ (by omega)
        have ht0 : (0 : Int) ≤ (t : Int) := by omega
        have ht64 : (t : Int) < 64 := by omega
        rw [hkz] at HS1
        rw [ht, hpw] at HP1
        clear hkz ht hpw
        go_wp2_with fail
        exact ⟨⟨d + 1, by omega, by rw [HS1.out]; go_num, by rw [HP1.out]; go_num, by go_num, Lib.hid (HK5.out.trans HKC.out)⟩, by simp [intOf]; omega⟩
    · obtain rfl : d = n := by omega
      have HRE : Hid (r = 1048576) := by
        show _ = _
        rw [← hr, List.take_of_length_le (by rw [HLL.out]; exact Nat.le_refl _), HR.out]
      have hre := HRE.out
      have HSL : Hid (sumAt m L L.length = s) := by show _ = _; rw [HLL.out]; exact hs
      subst hre
      have HLST := Lib.hid (least_ b d m wr HM.out HN.out.symm hn1 (by omega) (fun p hp => (HSM.out p hp).1.2))
      clear hs hr hlt
      go_wp2_with (
        go_at_call 12
        refine HLST.out.mono ?_
        rintro e w6 ⟨s2, H, rfl, ⟨N0, hN1, hN2⟩, hk6⟩
        have HK6 := Lib.hid (HK.out.trans hk6)
        have HEQ : Hid (H ≤ 16 → s = s2) := fun h => by rw [← HSL.out]; exact sum_least HND.out HS.out (by rw [← HN.out]; omega) (by rw [← HN.out]; omega) hN1 hN2 (by omega)
        clear hN1 hN2 hk6)
      all_goals go_ret
      all_goals refine ⟨?_, (HK4.out.trans HK6.out).below (Nat.le_refl _) (fun _ h => h.elim)⟩
      all_goals
        rcases Nat.lt_or_ge 16 H with h | h
        · have h2 : (16 : Int) < (H : Int) := by omega
          simp [h2]
        · have := HEQ.out h
          simp [this]

set_option maxRecDepth 100000 in
theorem lifted (os : Os) (started : os.Started) (H : Type) (enc : TypeId × Value → H) :
    ReturnsInHanded {} Try.checked os 3 .any (Rows.huffSizesSpec.pre6 enc Try.prog Try.f3 Rows.huffSizesRow.domain false) (Rows.huffSizesSpec.post enc Try.prog Try.f3 false true false false) := by
  refine returnsInHanded_of_change (C := Try.checked) own started (by kernel_rfl) Try.func3
    (ChangeSpec.witness6 (enc := enc) (C := Try.checked) false ⟨#[], #[.slice none 0 0], []⟩ 8 (by kernel_rfl) (by kernel_rfl) (by kernel_rfl) (by kernel_rfl)) ?_
  intro W base args ds gs before hval0 hW hcnd _
  have hval : ∀ (j : Nat) t v, Try.f3.params[j]? = some t → args[j]? = some v → Value.okWide Try.prog W .any base t v := hval0
  have hW' := hW
  obtain ⟨p, q, hA0, hV, rfl, hfz, hnd⟩ := hW
  have hA : DataW.TrodAll enc Try.prog W 0 (fun _ => true) true Try.f3.params.toList args.toList ds p := hA0
  rw [Try.params3] at hA hval
  obtain ⟨v0, vs0, d0, ds0, p0, q0, hargs, rfl, rfl, h0, r0⟩ := trodAll_cons hA
  obtain ⟨rfl, rfl, rfl⟩ := trodAll_nil r0
  obtain rfl : args = #[v0] := by cases args; simp_all
  obtain ⟨rfl, rfl⟩ := trodVars_none hV
  obtain ⟨a0, len0, cap0, rfl⟩ := okWide_slice Try.underlying22 (hval 0 22 v0 rfl rfl)
  have k0 := h0
  have lt0 : ∀ x ∈ p0, x.block < W.heap.size := by obtain ⟨m, hm⟩ := k0; exact DataW.trod_lt m _ _ _ hm
  obtain ⟨z0, w0⟩ : ∃ zs, IsPairs .i16 .u16 W a0 len0 cap0 zs := by
    obtain ⟨fuel, hf⟩ := h0
    exact open_pairs Try.underlying22 Try.underlying63 Try.underlying61 Try.underlying59 (by kernel_rfl) rfl rfl (by kernel_rfl) (by kernel_rfl) hf
  clear hA0 hval0
  refine (walk a0 len0 cap0 z0 W w0).mono fun e W' ⟨he, bel⟩ => ?_
  subst he
  exact ⟨_, rfl, _, _, _, [], _, [], hW', trodAll_mk1 (shut_bool Try.underlying4 _), (trodAll_cons_mk (Below.trod laidOut (by kernel_rfl) (of_decide_eq_true (by kernel_rfl)) k0 bel lt0) trodAll_mk0), rfl, bel.frame _, fun h => by cases h⟩

theorem over : Rows.huffSizesRow.holds Try.pinned (OpenSpec.ofChange Rows.huffSizesSpec) :=
  OpenClaim.holds_of_wide 3 Try.f3 rfl rfl rfl rfl rfl rfl rfl ⟨rfl, rfl, rfl, rfl, rfl⟩ rfl rfl rfl rfl rfl (by kernel_rfl) Try.func3 (by kernel_rfl)
    (of_decide_eq_true (by kernel_rfl)) (by unfold Func.isWrapper; first | (rw [if_pos (by decide +kernel)]; kernel_rfl) | (rw [if_neg (by decide +kernel)]; exact ⟨rfl, rfl⟩))
    (fun os started H enc _ => lifted os started H enc)

/-- The statement, as given. -/
theorem proved : Rows.HuffSizesSaid :=
  over
end Go.Proofs.Ytaamnbminmcbpaa.huffSizes
namespace Go.Proofs.Ytaamnbminmcbpaa
/-- The statement, as given. -/
theorem huffSizes_holds : Rows.HuffSizesSaid := huffSizes.proved
#print axioms huffSizes_holds
end Go.Proofs.Ytaamnbminmcbpaa
