/- The statement HuffBack (P5.1, P5.2: numbers, by words that their counts make, are taken as they were) holds for every input: the Go function answers true, and its arguments read as before. No conditions beyond the row's own. -/
import Derived.Test.YtaamnbminmcbpaaRows
import Derived.WalkKit
import Derived.ProofKit
import Derived.OpenShut
import Derived.ShutString
import Derived.ChangeOld
import Derived.Below
import Derived.Test.YtaamnbminmcbpaaHufBk
import Derived.Outline
import Derived.RegionTactic
import Derived.ChangeAlike
import Derived.BigQuiet
import Derived.Deep.Slices
import Derived.Deep.SlicePairs
namespace Go.Proofs.Ytaamnbminmcbpaa.huffBack
open Go.ChangeShapes Go.WideShapes Go.ChangeAt Go.RowKit Go.Deep
open Go.Proofs.Ytaamnbminmcbpaa.Gen Go.Proofs.Ytaamnbminmcbpaa.Mp Go.Proofs.Ytaamnbminmcbpaa.Hr Go.Proofs.Ytaamnbminmcbpaa.Hp Go.Proofs.Ytaamnbminmcbpaa.Hm Go.Proofs.Ytaamnbminmcbpaa.Hg Go.Proofs.Ytaamnbminmcbpaa.So Go.Proofs.Ytaamnbminmcbpaa.Hs Go.Proofs.Ytaamnbminmcbpaa.Hf Go.Proofs.Ytaamnbminmcbpaa.Hz Go.Proofs.Ytaamnbminmcbpaa.Ha Go.Proofs.Ytaamnbminmcbpaa.Hc Go.Proofs.Ytaamnbminmcbpaa.Hw Go.Proofs.Ytaamnbminmcbpaa.Ln Go.Proofs.Ytaamnbminmcbpaa.Bp Go.Proofs.Ytaamnbminmcbpaa.Hx Go.Proofs.Ytaamnbminmcbpaa.Hn Go.Proofs.Ytaamnbminmcbpaa.Hk Go.Proofs.Ytaamnbminmcbpaa.Hu Go.Proofs.Ytaamnbminmcbpaa.Hb Go.Proofs.Ytaamnbminmcbpaa.Br Go.Proofs.Ytaamnbminmcbpaa.Bw
set_option linter.unusedVariables false

theorem own : ownKnob Try.prog.godebug = none := by kernel_rfl
theorem laidOut : laidOutB Try.prog = true := by kernel_rfl

/-- What the walk is told of a slice of integers that came in: it is nil, or a row of cells that hold zs, each of which fits. -/
def IsRow (k : IntKind) (w : World) (a : Option Addr) (len cap : Nat) (zs : List Int) : Prop :=
  (a = none ∧ len = 0 ∧ cap = 0 ∧ zs = []) ∨
  ∃ x, a = some x ∧ len ≤ cap ∧ cap ≤ maxLen ∧ zs.length = cap ∧ (∀ i, i < zs.length → w.cell? (x.add i) = some (.int k (zs.getD i 0))) ∧ ∀ n ∈ zs, (Lit.int k n).wf = true
/-- And of a slice of such slices: it is nil, or each of its cells holds one. -/
def IsRows (k : IntKind) (w : World) (a : Option Addr) (len cap : Nat) : Prop :=
  (a = none ∧ len = 0 ∧ cap = 0) ∨
  ∃ x, a = some x ∧ len ≤ cap ∧ cap ≤ maxLen ∧ ∀ i, i < len → ∃ b n c zs, w.cell? (x.add i) = some (.slice b n c) ∧ IsRow k w b n c zs
/-- And of a slice of structs of two integers. -/
def IsPairs (k0 k1 : IntKind) (w : World) (a : Option Addr) (len cap : Nat) (zs : List (Int × Int)) : Prop :=
  (a = none ∧ len = 0 ∧ cap = 0 ∧ zs = []) ∨
  ∃ x, a = some x ∧ len ≤ cap ∧ cap ≤ maxLen ∧ zs.length = cap ∧ ∀ i, i < zs.length → w.cell? (x.add (i * 2)) = some (.int k0 (zs.getD i (0, 0)).1) ∧ w.cell? (x.add (i * 2 + 1)) = some (.int k1 (zs.getD i (0, 0)).2) ∧ (Lit.int k0 (zs.getD i (0, 0)).1).wf = true ∧ (Lit.int k1 (zs.getD i (0, 0)).2).wf = true
section
variable {H : Type} {enc : TypeId × Value → H} {W : World}
theorem open_pairs {t e : TypeId} {k0 k1 : IntKind} {f0 f1 : Field} {fuel : Nat} {a : Option Addr} {len cap : Nat} {x : DataW H × List MemPlace} (ht : Try.prog.underlying t = some (.slice e)) (he : Try.prog.underlying e = some (.struct #[f0, f1])) (h0 : Try.prog.underlying f0.type = some (.int k0)) (h1 : Try.prog.underlying f1.type = some (.int k1))
    (ce : Try.prog.cellsOf e = 2) (o0 : f0.offset = 0) (o1 : f1.offset = 1) (c0 : Try.prog.cellsOf f0.type = 1) (c1 : Try.prog.cellsOf f1.type = 1)
    (hf : DataW.trod enc Try.prog W 0 (fun _ => true) true fuel t (Value.slice a len cap).cells.toList = some x) : ∃ zs, IsPairs k0 k1 W a len cap zs := by
  rcases open_slice_pairs ht he ce o0 o1 c0 c1 hf with ⟨hcs, _⟩ | ⟨y, l, c, m, n, V0, V1, D0, D1, P0, P1, hcs, _, hl, hm, hmm, _, hi⟩
  · simp [Value.cells] at hcs
    obtain ⟨rfl, rfl, rfl⟩ := hcs
    exact ⟨[], .inl ⟨rfl, rfl, rfl, rfl⟩⟩
  · simp [Value.cells] at hcs
    obtain ⟨rfl, rfl, rfl⟩ := hcs
    simp only [if_true] at hmm
    refine ⟨(List.range cap).map fun i => (intOf (V0 i), intOf (V1 i)), .inr ⟨y, rfl, hl, hm, by simp, fun i hil => ?_⟩⟩
    have hic : i < cap := by simpa using hil
    obtain ⟨g0, g1, g2, g3⟩ := hi i (by omega)
    obtain ⟨n0, e0, _, w0⟩ := DataW.trod_int h0 g2
    obtain ⟨n1, e1, _, w1⟩ := DataW.trod_int h1 g3
    injection e0 with e0
    injection e1 with e1
    rw [e0] at g0
    rw [e1] at g1
    have hz : ((List.range cap).map fun i => (intOf (V0 i), intOf (V1 i))).getD i (0, 0) = (n0, n1) := by
      simp [List.getD_eq_getElem?_getD, hic, e0, e1, intOf]
    rw [hz]
    exact ⟨g0, g1, w0, w1⟩
theorem open_row {t e : TypeId} {k : IntKind} {fuel : Nat} {a : Option Addr} {len cap : Nat} {x : DataW H × List MemPlace} (ht : Try.prog.underlying t = some (.slice e)) (he : Try.prog.underlying e = some (.int k)) (h1 : Try.prog.cellsOf e = 1)
    (hf : DataW.trod enc Try.prog W 0 (fun _ => true) true fuel t (Value.slice a len cap).cells.toList = some x) : ∃ zs, IsRow k W a len cap zs := by
  rcases open_ints ht he h1 hf with ⟨hcs, _⟩ | ⟨x, l, c, zs, hcs, _, hl, hm, hz, _, hcell, hwz⟩
  · simp [Value.cells] at hcs
    obtain ⟨rfl, rfl, rfl⟩ := hcs
    exact ⟨[], .inl ⟨rfl, rfl, rfl, rfl⟩⟩
  · simp [Value.cells] at hcs
    obtain ⟨rfl, rfl, rfl⟩ := hcs
    exact ⟨zs, .inr ⟨_, rfl, hl, hm, by simpa using hz, hcell, hwz⟩⟩
theorem open_rows {t e g : TypeId} {k : IntKind} {fuel : Nat} {a : Option Addr} {len cap : Nat} {x : DataW H × List MemPlace} (ht : Try.prog.underlying t = some (.slice e)) (he : Try.prog.underlying e = some (.slice g)) (hg : Try.prog.underlying g = some (.int k)) (h1 : Try.prog.cellsOf e = 1) (h2 : Try.prog.cellsOf g = 1)
    (hf : DataW.trod enc Try.prog W 0 (fun _ => true) true fuel t (Value.slice a len cap).cells.toList = some x) : IsRows k W a len cap := by
  rcases open_slice ht hf with ⟨hcs, _⟩ | ⟨x, l, c, m, n, D, Pl, hcs, _, hl, hm, hmm, _, hi⟩
  · simp [Value.cells] at hcs
    obtain ⟨rfl, rfl, rfl⟩ := hcs
    exact .inl ⟨rfl, rfl, rfl⟩
  · simp [Value.cells] at hcs
    obtain ⟨rfl, rfl, rfl⟩ := hcs
    refine .inr ⟨x, rfl, hl, hm, fun i hil => ?_⟩
    simp only [if_true] at hmm
    obtain ⟨cs, hc, htr⟩ := hi i (by omega)
    rw [h1, Nat.mul_one] at hc
    obtain ⟨_, hlen, hat⟩ := World.cells?_some hc
    have h0 := hat 0 (by omega)
    have ha0 : (x.add i).add 0 = x.add i := by rw [Go.Deep.add_add]; rfl
    rw [ha0] at h0
    rcases open_ints he hg h2 htr with ⟨hcs, _⟩ | ⟨y, l', c', zs, hcs, _, hl', hm', hz, _, hcell, hwz⟩
    · subst hcs
      exact ⟨none, 0, 0, [], by simpa using h0, .inl ⟨rfl, rfl, rfl, rfl⟩⟩
    · subst hcs
      exact ⟨some y, l', c', zs, by simpa using h0, .inr ⟨y, rfl, hl', hm', by simpa using hz, hcell, hwz⟩⟩
end
def cints (m : List (Int × Nat)) : List (Int × Int) := m.map fun p => (p.1, (p.2 : Int))
theorem mi_cints (m : List (Int × Nat)) : mi (cints m) = mv m := by simp [mi, cints, mv, Function.comp_def]
theorem nats_cints (m : List (Int × Nat)) : nats (cints m) = m := by
  simp only [nats, cints, List.map_map]
  conv => rhs; rw [← List.map_id m]
  exact List.map_congr_left fun p _ => by simp
theorem cints_len (m : List (Int × Nat)) : (cints m).length = m.length := by simp [cints]
theorem cints_good {m : List (Int × Nat)} (h : Small m) : ∀ p ∈ cints m, Hz.Good p := by
  intro p hp
  simp only [cints, List.mem_map] at hp
  obtain ⟨q, hq, rfl⟩ := hp
  have := h q hq
  unfold Hz.Good
  simp only
  omega
set_option maxHeartbeats 40000000 in
set_option maxRecDepth 100000 in
theorem walk (a0 : Option Addr) (len0 cap0 : Nat) (z0 : List (Int × Int)) (a1 : Option Addr) (len1 cap1 : Nat) (z1 : List Int) (w : World) (w0 : IsPairs .i16 .u16 w a0 len0 cap0 z0) (w1 : IsRow .u8 w a1 len1 cap1 z1) :
    Calls Try.prog 5 #[.slice a0 len0 cap0, .slice a1 len1 cap1] w fun e w' => e = .returned (.bool true) ∧ Below w.heap.size w w' := by
  have HP := Lib.hid (pairs_at w0)
  have HO := Lib.hid (row_at w1)
  clear w0 w1
  go_enter Try.func5, Try.ntmps5
  go_wp2_with fail
  refine (awake_ _).mono ?_
  rintro e w1 ⟨rfl, hk1⟩
  have HK1 := Lib.hid hk1
  clear hk1
  by_cases hbig : 100 < len0
  · have hbi : (100 : Int) < (len0 : Int) := by omega
    have hbd : decide ((100 : Int) < (len0 : Int)) = true := by simpa using hbi
    clear hbig
    go_wp2
    go_ret
    exact ⟨rfl, HK1.out.below (Nat.le_refl _) (fun _ h => h.elim)⟩
  have hbi : ¬ ((100 : Int) < (len0 : Int)) := by omega
  have hbd : decide ((100 : Int) < (len0 : Int)) = false := by simpa using hbi
  by_cases hbig2 : 100 < len1
  · have hbi2 : (100 : Int) < (len1 : Int) := by omega
    have hbd2 : decide ((100 : Int) < (len1 : Int)) = true := by simpa using hbi2
    clear hbig2 hbig
    go_wp2
    go_ret
    exact ⟨rfl, HK1.out.below (Nat.le_refl _) (fun _ h => h.elim)⟩
  have hbi2 : ¬ ((100 : Int) < (len1 : Int)) := by omega
  have hbd2 : decide ((100 : Int) < (len1 : Int)) = false := by simpa using hbi2
  have hle : len0 ≤ 1000 := by omega
  have hle1 : len1 ≤ 100 := by omega
  clear hbig hbig2
  go_wp2_with fail
  refine (counts_ a0 len0 cap0 60 w1 (HP.out.keeps HK1.out) hle (by omega)).mono ?_
  rintro e w2 ⟨b, rfl, m, him, hb, hml, hsm, hk2⟩
  have HM2 : Hid (IsM Try.prog 3 w2 b (mi (cints m))) := by show IsM _ _ _ _ _; rw [mi_cints]; exact him
  obtain ⟨n, hn⟩ : ∃ n, n = m.length := ⟨_, rfl⟩
  have HN := Lib.hid hn
  have HSM := Lib.hid hsm
  have HK2 := Lib.hid (HK1.out.trans hk2)
  rw [← hn] at hml
  clear him hk2 hsm hb hn
  go_wp2_with fail
  refine (sizes_ b n (cints m) w2 HM2.out (by rw [cints_len]; exact HN.out.symm) (by omega)).mono ?_
  rintro e w3 ⟨ha, hk3⟩
  have HM3 : Hid (IsM Try.prog 3 w3 b (mv m)) := by show IsM _ _ _ _ _; rw [← mi_cints]; exact HM2.out.keeps hk3 id
  have HK3 := Lib.hid (HK2.out.trans hk3)
  rcases ha with ⟨h0, rfl⟩ | ⟨_, ⟨p, hp, hb⟩, _⟩ | ⟨hn1, _, gl, L, rfl, hbl, hg, hLl, hs⟩
  · obtain rfl : n = 0 := by omega
    clear hk3 h0
    go_wp2_with (
      at_len
      refine wpList_len_m _ rfl _ _ rfl 3 3 Try.underlying24 b 0 (mv m) rfl HM3.out (by rw [mv_len]; exact HN.out.symm) ?_)
    go_ret
    exact ⟨rfl, HK3.out.below (Nat.le_refl _) (fun _ h => h.elim)⟩
  · exact absurd (cints_good HSM.out p hp) hb
  rw [nats_cints] at hs
  have HS := Lib.hid hs
  have HZ := Lib.hid (sizes_small hs)
  have HR : Hid (posOf L = 2 ^ 20) := sizes_room hs (by rw [← HN.out]; omega) (by rw [← HN.out]; omega)
  have HRB : Hid (posOf L ≤ 2 ^ 20) := by rw [HR.out]; exact Nat.le_refl _
  have HX : Hid (∀ p ∈ L, -2147483647 ≤ p.1 ∧ p.1 ≤ 2147483647) := by
    intro p hp
    obtain ⟨q, hq, e⟩ := keys_from HS.out p hp
    have := HSM.out q hq
    rw [← e]
    omega
  have HB := Lib.hid hbl
  have HLL := Lib.hid hLl
  obtain ⟨hn1, hn2⟩ := hn1
  clear hk3 hs hbl hg hLl HM2 HM3
  go_wp2_with fail
  refine (new_ok (some ⟨gl, 0, none⟩) n n L w3 (row_blk HB.out) HLL.out hn1 hn2 HS.out.rise HX.out HZ.out HRB.out).mono ?_
  rintro e w4 ⟨⟨p, rfl, hc⟩, hk4⟩
  obtain ⟨W, hW⟩ : ∃ W, W = wordsOf L := ⟨_, rfl⟩
  rw [← hW] at hc
  have HW := Lib.hid hW
  have HC4 := Lib.hid hc
  have HB4 := Lib.hid (HB.out.keeps hk4 id)
  have HK4 := Lib.hid (HK3.out.trans hk4)
  have HFN : Hid (Fine W) := by rw [hW]; exact fine_words HZ.out HRB.out
  have HFO : Hid (∀ x ∈ L.map (·.1), ∃ z v, found W x = some (z, v) ∧ z ≤ 20 ∧ v < 2 ^ z ∧ (x, z, v) ∈ W) := by rw [hW]; exact fun x hx => found_of HZ.out HRB.out hx
  clear hc hk4 hW
  have HPU0 : Hid (Put w4 (w4.alloc (.cells #[.slice none 0 0, .int .u64 0, .int .i64 0] 45)) w4.heap.size (.slice none 0 0) (.slice none 0 0) W [] 0) :=
    ⟨rfl, by have := Bw.new_bw w4; simpa [bitsW] using this, World.ownsRow_nil _ _ _ _, (Keeps.refl _ _).alloc _⟩
  have hK4s : w.heap.size ≤ w4.heap.size := HK4.out.size
  go_wp2
  obtain ⟨g, hg⟩ : ∃ g, g = w4.heap.size := ⟨_, rfl⟩
  rw [← hg] at HPU0
  rw [← hg]
  have HG := Lib.hid hg
  clear hg
  obtain ⟨i0, hi0, hz0, hz1, hz2⟩ := info_parts int_info
  go_loopw [11, 52] (fun pv iv' wr => ∃ (d : Nat) (v : Value) (A : Option Addr) (c : Nat) (xs : List Int), pv = .slice A d c ∧ iv' = .int .i64 (d : Int) ∧ d ≤ len1 ∧ Put w4 wr g v (.slice A d c) W xs d ∧ ∀ x ∈ xs, x ∈ L.map (·.1)) (fun _ iv' _ => len1 - (intOf iv').toNat)
  case atStart => exact ⟨0, .slice none 0 0, none, 0, [], rfl, rfl, by omega, HPU0.out, by simp⟩
  case round =>
    clear HPU0
    obtain ⟨d, v, A, c, xs, rfl, rfl, hd, hpu, hin⟩ := hrel
    have HPU := Lib.hid hpu
    have HIN := Lib.hid hin
    clear hpu hin
    by_cases hlt : d < len1
    · obtain ⟨ob, oo, k, rfl, hob, hco, _, hwk⟩ := HO.out.2 d hlt
      have HKW := Lib.hid (HK4.out.trans HPU.out.keeps)
      have hco2 : wr.cell? ⟨ob, oo + d, none⟩ = some (.int .u8 k) := (HKW.out.cell (p := ⟨ob, oo + d, none⟩) hob id).trans hco
      obtain ⟨kk, rfl, hkk⟩ : ∃ kk : Nat, k = (kk : Int) ∧ kk < 256 := by
        have hm : IntKind.u8.min = 0 ∧ IntKind.u8.max = 255 := by decide
        simp [Lit.wf, hm.1, hm.2] at hwk
        exact ⟨k.toNat, by omega, by omega⟩
      obtain ⟨j, hj⟩ : ∃ j, j = kk % n := ⟨_, rfl⟩
      have hjn : j < n := by rw [hj]; exact Nat.mod_lt _ hn1
      have hjm : (kk : Int) % (n : Int) = (j : Int) := by rw [hj]; simp
      have hjt : Int.tmod (kk : Int) (n : Int) = (j : Int) := by rw [Int.tmod_eq_emod_of_nonneg (by omega)]; exact hjm
      have hjL : j < L.length := by rw [HLL.out]; exact hjn
      obtain ⟨x, hx⟩ : ∃ x, x = (L.getD j (0, 0)).1 := ⟨_, rfl⟩
      have hcx : wr.cell? ⟨gl, j * 2, none⟩ = some (.int .i64 x) := by
        rw [(HB4.out.keeps HPU.out.keeps id).cell, List.getElem?_toArray, evs_get0 L j hjL, hx]
      have hxL : x ∈ L.map (·.1) := by
        rw [hx, List.getD_eq_getElem?_getD, List.getElem?_eq_getElem hjL]
        exact List.mem_map.2 ⟨L[j], List.getElem_mem hjL, rfl⟩
      have HXL := Lib.hid hxL
      have hd1 : (d : Int) < (len1 : Int) := by omega
      have hjn1 : (j : Int) < (n : Int) := by omega
      have hnz : ¬ ((n : Int) = 0) := by omega
      have HXW : Hid ((Lit.int .i64 x).wf = true) := by
        rw [List.mem_map] at hxL
        obtain ⟨q, hq, e⟩ := hxL
        have := HX.out q hq
        rw [e] at this
        exact wf_of (by omega)
      have HNW := Lib.hid (cell_one wr (.int .i64 x) 3)
      have HKA := Lib.hid ((Keeps.refl (fun _ => False) wr).alloc (.cells #[.int .i64 x] 3))
      have HPA : Hid (Put w4 (wr.alloc (.cells #[.int .i64 x] 3)) g v (.slice A d c) W xs d) := ⟨HPU.out.len, HPU.out.bw.keeps HKA.out (fun _ _ => id), own_keeps HPU.out.row HKA.out (fun _ _ => id), HPU.out.keeps.trans HKA.out⟩
      clear hob hco hwk hj hjL hx hxL HPU
      go_upto_region 19 with (
        at_builtin
        refine wpList_append_own_at _ rfl (.tmp 65) (.tmp 67) _ rfl w4.heap.size 3 i0 _ 1 8 Try.underlying53 hi0 hz0 hz1 hz2 rfl (by omega) (.slice A d c) d (iv xs) rfl
          HPA.out.row ⟨wr.heap.size, 0, none⟩ 1 1 [.int .i64 x] rfl rfl HNW.out (by simp [Value.oneCell']) (by simp only [maxLen]; omega) (by omega) HPA.out.keeps.size ?_
        intro v1 w5 hown1 hg1 hnil1 hat1)
      obtain ⟨A1, c1, rfl, _⟩ := own_form hown1
      have hown2 : w5.ownsRow w4.heap.size 3 1 (.slice A1 (d + 1) c1) (d + 1) (iv (xs ++ [x])) := by
        have e : iv (xs ++ [x]) = iv xs ++ [.int .i64 x] := by simp [iv]
        rw [e]
        exact hown1
      obtain ⟨hb5, hkw5⟩ := HPA.out.append hown2 (Keeps.grown (Keeps.refl _ _) hg1 (fun j hj => .inl hj))
      have HO5 := Lib.hid hown2
      have HB5 := Lib.hid hb5
      have HKW5 := Lib.hid hkw5
      obtain ⟨z, v', hfo, hz20, hv2, _⟩ := HFO.out x HXL.out
      have hv3 : v' < 4294967296 := by
        have : (2 : Nat) ^ z ≤ 2 ^ 20 := Nat.pow_le_pow_right (by omega) hz20
        omega
      have HBL : Hid ((bitsW W xs).length + 32 ≤ 8000000) := by
        have h1 := bitsW_len (W := W) (xs := xs) (fun y hy => by
          obtain ⟨z1, v1, f1, f2, _⟩ := HFO.out y (HIN.out y hy)
          unfold wz
          rw [f1]
          exact f2)
        have h2 := HPA.out.len
        show _ ≤ _
        omega
      have HCP := Lib.hid (put_some w3.heap.size p W x z v' w4.heap.size g v (bitsW W xs) w5 (HC4.out.keeps HKW5.out (fun _ _ _ => id)) HXW.out hfo (by omega) hv3 HB5.out HBL.out)
      have HBS : Hid (bitsW W (xs ++ [x]) = bitsW W xs ++ tb v' z) := by
        show _ = _
        rw [bitsW_snoc]
        unfold wb wz
        rw [hfo]
        rfl
      clear hown1 hown2 hg1 hnil1 hat1 hb5 hkw5 hfo hv2
      go_wp2_with (
        refine HCP.out.mono ?_
        rintro e w6 ⟨rfl, vv, hvv, hmv⟩
        have HVV := Lib.hid hvv
        have HMV := Lib.hid hmv
        clear hvv hmv)
      refine ⟨⟨d + 1, vv, A1, c1, xs ++ [x], rfl, by go_num, by omega, ?_, ?_⟩, by simp [intOf]; omega⟩
      · exact Put.put HPA.out.len HB5.out HKW5.out HO5.out (by rw [HBS.out]; exact HVV.out) HMV.out
      · intro y hy
        rcases List.mem_append.1 hy with hy | hy
        · exact HIN.out y hy
        · rw [List.mem_singleton] at hy
          rw [hy]
          exact HXL.out
    · obtain rfl : d = len1 := by omega
      clear hlt
      have HBLE : Hid ((bitsW W xs).length ≤ 2000) := by
        have h1 := bitsW_len (W := W) (xs := xs) (fun y hy => by
          obtain ⟨z1, v1, f1, f2, _⟩ := HFO.out y (HIN.out y hy)
          unfold wz
          rw [f1]
          exact f2)
        have h2 := HPU.out.len
        show _ ≤ _
        omega
      obtain ⟨bl, hbl⟩ : ∃ bl, bl = (bitsW W xs).length := ⟨_, rfl⟩
      have HBL := Lib.hid hbl
      have HLE := Lib.hid (fun W' hw' => len_bw g w4.heap.size v (bitsW W xs) bl W' hw' (by have := HBLE.out; omega) hbl.symm)
      clear hbl
      have HNF : Hid (found W 1099511627776 = none) := by
        show _ = _
        cases hf : found W 1099511627776 with
        | none => rfl
        | some q =>
          have h1 := found_mem hf
          rw [HW.out] at h1
          have h2 := HX.out _ (words_mem h1)
          simp only at h2
          omega
      obtain ⟨x0, hx0⟩ : ∃ x0, x0 = (L.getD 0 (0, 0)).1 := ⟨_, rfl⟩
      have HX0 : Hid ((Lit.int .i64 x0).wf = true) := by
        have hl0 : 0 < L.length := by rw [HLL.out]; omega
        have h1 : L.getD 0 (0, 0) ∈ L := by rw [List.getD_eq_getElem?_getD, List.getElem?_eq_getElem hl0]; exact List.getElem_mem hl0
        have := HX.out _ h1
        rw [hx0]
        exact wf_of (by omega)
      have HCX : Hid (∀ W', Keeps (fun _ => False) w4 W' → W'.cell? ⟨gl, 0, none⟩ = some (.int .i64 x0)) := by
        intro W' hk
        have h1 := (HB4.out.keeps hk id).cell (0 * 2)
        rw [List.getElem?_toArray, evs_get0 L 0 (by rw [HLL.out]; omega), ← hx0] at h1
        exact h1
      clear hx0
      have hn0 : (0 : Int) < (n : Int) := by omega
      go_wp2_with fail
      refine (HLE.out _ HPU.out.bw).mono ?_
      rintro e w5 ⟨rfl, q5, rfl⟩
      have HK5 := Lib.hid ((Keeps.refl (fun _ => False) wr).drewN q5)
      generalize wr.drewN q5 = w5 at HK5 ⊢
      have HC5 := Lib.hid ((HC4.out.keeps HPU.out.keeps (fun _ _ _ => id)).keeps HK5.out (fun _ _ _ => id))
      go_wp2_with fail
      refine (put_no w3.heap.size p W 1099511627776 (some ⟨g, 0, none⟩) w5 HC5.out (by decide) HNF.out).mono ?_
      rintro e w6 ⟨rfl, hk6⟩
      have HC6 := Lib.hid (HC5.out.keeps hk6 (fun _ _ _ => id))
      have HK6 := Lib.hid (HK5.out.trans hk6)
      have hcx := HCX.out w6 (HPU.out.keeps.trans HK6.out)
      clear hk6 HK5 HC5
      go_wp2_with fail
      refine (put_nil w3.heap.size p W x0 w6 HC6.out HX0.out).mono ?_
      rintro e w7 ⟨rfl, hk7⟩
      have HC7 := Lib.hid (HC6.out.keeps hk7 (fun _ _ _ => id))
      have HK7 := Lib.hid (HK6.out.trans hk7)
      clear hk7 HK6 HC6 hcx
      have HBW7 := Lib.hid (HPU.out.bw.keeps HK7.out (fun _ _ => id))
      go_wp2_with fail
      refine (HLE.out _ HBW7.out).mono ?_
      rintro e w8 ⟨rfl, q8, rfl⟩
      have HK8 := Lib.hid (HK7.out.drewN q8)
      have HC8 := Lib.hid (HC7.out.keeps ((Keeps.refl (fun _ => False) w7).drewN q8) (fun _ _ _ => id))
      generalize w7.drewN q8 = w8 at HK8 HC8 ⊢
      clear HK7 HC7 HBW7
      have HBW8 := Lib.hid (HPU.out.bw.keeps HK8.out (fun _ _ => id))
      go_wp2_with fail
      refine (Bw.bytes g w4.heap.size v (bitsW W xs) w8 HBW8.out (by have := HBLE.out; omega)).mono ?_
      rintro e w9 ⟨A9, c9, ys, n9, hy1, rfl, hy2, hy3, hy4, hk9⟩
      have HPK := Lib.hid hy2
      have HC9 := Lib.hid (HC8.out.keeps hk9 (fun _ _ _ => id))
      have HK9 := Lib.hid (HK8.out.trans hk9)
      have HRD := Lib.hid (read_n A9 n9 c9 ys w9 hy1 (Lies.of_own hy4) (by have h1 := pack_len hy2; rw [List.length_map] at h1; have := HBLE.out; omega) hy3)
      clear hy1 hy2 hy3 hy4 hk9 HK8 HC8 HBW8
      go_wp2_with fail
      refine HRD.out.mono ?_
      rintro e w10 ⟨rg, rfl, hr10, hk10⟩
      have HC10 := Lib.hid (HC9.out.keeps hk10 (fun _ _ _ => id))
      have HK10 := Lib.hid (HK9.out.trans hk10)
      have HK9S := Lib.hid HK9.out.size
      have HR10 := Lib.hid hr10
      have HRW10 := Lib.hid (own_keeps HPU.out.row HK10.out (fun _ _ => id))
      clear hr10 hk10 HK9 HC9 HRD
      have HXD : Hid (xs.length = d) := HPU.out.len
      go_wp2
      go_loopw [99] (fun iv' wx => ∃ e : Nat, iv' = .int .i64 (e : Int) ∧ e ≤ d ∧ IsBr w9.heap.size rg ⟨ys, (bitsW W (xs.take e)).length, false⟩ wx ∧ IsCode w3.heap.size wx p W ∧ wx.ownsRow w4.heap.size 3 1 (.slice A d c) d (iv xs) ∧ Keeps (fun _ => False) w wx) (fun iv' _ => d - (intOf iv').toNat)
      case atStart => exact ⟨0, rfl, by omega, by simpa [bitsW] using HR10.out, HC10.out, HRW10.out, HK4.out.trans (HPU.out.keeps.trans HK10.out)⟩
      case round =>
        clear HR10 HC10 HRW10
        obtain ⟨e, rfl, hed, hr, hc, hrow, hk⟩ := hrel
        have HRR := Lib.hid hr
        have HCC := Lib.hid hc
        have HRO := Lib.hid hrow
        have HKK := Lib.hid hk
        clear hr hc hrow hk
        by_cases hlt : e < d
        · have hex : e < xs.length := by rw [HXD.out]; exact hlt
          obtain ⟨x, hx⟩ : ∃ x, x = xs.getD e 0 := ⟨_, rfl⟩
          have hxm : x ∈ xs := by rw [hx, List.getD_eq_getElem?_getD, List.getElem?_eq_getElem hex]; exact List.getElem_mem hex
          obtain ⟨ga, rfl⟩ := own_some HRO.out (.inl (by omega))
          have hcx : wr.cell? ⟨ga, e, none⟩ = some (.int .i64 x) := by
            have := (HRO.out.cells (g := ga) rfl e (.int .i64 x) (by simp [iv, hx, List.getD_eq_getElem?_getD, List.getElem?_eq_getElem hex]))
            rw [add_none, Nat.zero_add] at this
            exact this
          obtain ⟨z, v', hfo, hz20, hv2, hmw⟩ := HFO.out x (HIN.out x hxm)
          obtain ⟨hnx, hnl⟩ := next_at HPK.out hex (by rw [← hx]; exact hfo) hv2
          have HTK := Lib.hid (take_ w3.heap.size p W w9.heap.size rg _ wr HCC.out HFN.out HRR.out)
          have HANS : Hid (∀ x' s', TakeAns W ⟨ys, (bitsW W (xs.take e)).length, false⟩ x' s' → x' = x ∧ s' = ⟨ys, (bitsW W (xs.take (e + 1))).length, false⟩) := by
            intro x' s' hans
            rcases hans with ⟨z', w', hm', _, hn', hs'⟩ | ⟨hno, _⟩
            · have h1 := next_one HZ.out HRB.out (by rw [← HW.out]; exact hm') (by rw [← HW.out]; exact hmw) hn' hnx
              injection h1 with h1 h2
              injection h2 with h2 h3
              refine ⟨h1, ?_⟩
              rw [hs', hnl, h2]
            · rcases hno with h1 | h1
              · cases h1
              · exact absurd hnx (h1 _ hmw)
          have he1 : (e : Int) < (d : Int) := by omega
          clear hx hxm hfo hz20 hv2 hmw hnx hnl hex hlt
          go_wp2_with fail
          refine HTK.out.mono ?_
          rintro r1 w11 ⟨x', s', rfl, hans, hr11, hc11, hk11⟩
          obtain ⟨rfl, rfl⟩ := HANS.out x' s' hans
          have HR11 := Lib.hid hr11
          have HC11 := Lib.hid hc11
          have HRO11 : Hid (w11.ownsRow w4.heap.size 3 1 (.slice (some ⟨ga, 0, none⟩) d c) d (iv xs)) := by
            obtain ⟨cs, hcs⟩ := br_blk HRR.out
            exact own_keeps HRO.out hk11 (fun b hb e => own_ne HRO.out hcs (by decide) (by rw [hb, e]))
          have HRL : Hid (w.heap.size ≤ rg) := by
            have h1 := HRR.out.1
            have h2 := HK4.out.size
            have h3 := HPU.out.keeps.size
            have h4 := HK9S.out
            show _ ≤ _
            omega
          have HK11 := Lib.hid (keeps_low HKK.out hk11 (fun y hy => by rw [hy]; exact HRL.out))
          have HEN := Lib.hid (ended_q rg _ false w9.heap.size w11 HR11.out rfl)
          clear hans hr11 hc11 hk11
          have hxx : (x' != x') = false := by simp
          go_wp2_with (
            refine HEN.out.mono ?_
            rintro r2 w' ⟨rfl, hw⟩
            rw [hw]
            clear hw)
          exact ⟨⟨e + 1, by go_num, by omega, HR11.out, HC11.out, HRO11.out, HK11.out⟩, by simp [intOf]; omega⟩
        · obtain rfl : e = d := by omega
          have HFI : Hid ((⟨ys, (bitsW W (xs.take e)).length, false⟩ : BS).fin = 0) := by
            rw [List.take_of_length_le (by rw [HXD.out]; exact Nat.le_refl _)]
            exact fin_zero HPK.out
          have HED := Lib.hid (end_ rg _ w9.heap.size wr HRR.out)
          rw [HFI.out] at HED
          go_wp2_with (
            refine HED.out.mono ?_
            rintro r2 w12 ⟨rfl, q12, rfl⟩)
          go_ret
          exact ⟨rfl, (HKK.out.drewN q12).below (Nat.le_refl _) (fun _ h => h.elim)⟩

set_option maxRecDepth 100000 in
theorem lifted (os : Os) (started : os.Started) (H : Type) (enc : TypeId × Value → H) :
    ReturnsInHanded {} Try.checked os 5 .any (Rows.huffBackSpec.pre6 enc Try.prog Try.f5 Rows.huffBackRow.domain false) (Rows.huffBackSpec.post enc Try.prog Try.f5 false true false false) := by
  refine returnsInHanded_of_change (C := Try.checked) own started (by kernel_rfl) Try.func5
    (ChangeSpec.witness6 (enc := enc) (C := Try.checked) false ⟨#[], #[.slice none 0 0, .slice none 0 0], []⟩ 8 (by kernel_rfl) (by kernel_rfl) (by kernel_rfl) (by kernel_rfl)) ?_
  intro W base args ds gs before hval0 hW hcnd _
  have hval : ∀ (j : Nat) t v, Try.f5.params[j]? = some t → args[j]? = some v → Value.okWide Try.prog W .any base t v := hval0
  have hW' := hW
  obtain ⟨p, q, hA0, hV, rfl, hfz, hnd⟩ := hW
  have hA : DataW.TrodAll enc Try.prog W 0 (fun _ => true) true Try.f5.params.toList args.toList ds p := hA0
  rw [Try.params5] at hA hval
  obtain ⟨v0, vs0, d0, ds0, p0, q0, hargs, rfl, rfl, h0, r0⟩ := trodAll_cons hA
  obtain ⟨v1, vs1, d1, ds1, p1, q1, rfl, rfl, rfl, h1, r1⟩ := trodAll_cons r0
  obtain ⟨rfl, rfl, rfl⟩ := trodAll_nil r1
  obtain rfl : args = #[v0, v1] := by cases args; simp_all
  obtain ⟨rfl, rfl⟩ := trodVars_none hV
  obtain ⟨a0, len0, cap0, rfl⟩ := okWide_slice Try.underlying22 (hval 0 22 v0 rfl rfl)
  have k0 := h0
  have lt0 : ∀ x ∈ p0, x.block < W.heap.size := by obtain ⟨m, hm⟩ := k0; exact DataW.trod_lt m _ _ _ hm
  obtain ⟨z0, w0⟩ : ∃ zs, IsPairs .i16 .u16 W a0 len0 cap0 zs := by
    obtain ⟨fuel, hf⟩ := h0
    exact open_pairs Try.underlying22 Try.underlying63 Try.underlying61 Try.underlying59 (by kernel_rfl) rfl rfl (by kernel_rfl) (by kernel_rfl) hf
  obtain ⟨a1, len1, cap1, rfl⟩ := okWide_slice Try.underlying38 (hval 1 38 v1 rfl rfl)
  have k1 := h1
  have lt1 : ∀ x ∈ p1, x.block < W.heap.size := by obtain ⟨m, hm⟩ := k1; exact DataW.trod_lt m _ _ _ hm
  obtain ⟨z1, w1⟩ : ∃ zs, IsRow .u8 W a1 len1 cap1 zs := by
    obtain ⟨fuel, hf⟩ := h1
    exact open_row Try.underlying38 Try.underlying5 (by kernel_rfl) hf
  clear hA0 hval0
  refine (walk a0 len0 cap0 z0 a1 len1 cap1 z1 W w0 w1).mono fun e W' ⟨he, bel⟩ => ?_
  subst he
  exact ⟨_, rfl, _, _, _, [], _, [], hW', trodAll_mk1 (shut_bool Try.underlying4 _), (trodAll_cons_mk (Below.trod laidOut (by kernel_rfl) (of_decide_eq_true (by kernel_rfl)) k0 bel lt0) (trodAll_cons_mk (Below.trod laidOut (by kernel_rfl) (of_decide_eq_true (by kernel_rfl)) k1 bel lt1) trodAll_mk0)), rfl, bel.frame _, fun h => by cases h⟩

theorem over : Rows.huffBackRow.holds Try.pinned (OpenSpec.ofChange Rows.huffBackSpec) :=
  OpenClaim.holds_of_wide 5 Try.f5 rfl rfl rfl rfl rfl rfl rfl ⟨rfl, rfl, rfl, rfl, rfl⟩ rfl rfl rfl rfl rfl (by kernel_rfl) Try.func5 (by kernel_rfl)
    (of_decide_eq_true (by kernel_rfl)) (by unfold Func.isWrapper; first | (rw [if_pos (by decide +kernel)]; kernel_rfl) | (rw [if_neg (by decide +kernel)]; exact ⟨rfl, rfl⟩))
    (fun os started H enc _ => lifted os started H enc)

/-- The statement, as given. -/
theorem proved : Rows.HuffBackSaid :=
  over
end Go.Proofs.Ytaamnbminmcbpaa.huffBack
namespace Go.Proofs.Ytaamnbminmcbpaa
/-- The statement, as given. -/
theorem huffBack_holds : Rows.HuffBackSaid := huffBack.proved
#print axioms huffBack_holds
end Go.Proofs.Ytaamnbminmcbpaa
