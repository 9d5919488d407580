/- The statement HuffApart (P5.1, P5.2, without the document's answer: no word is another one's beginning; a commoner number has no longer word) holds for every input: the Go function answers true, and its arguments read as before. No conditions beyond the row's own. -/
import Derived.Test.YtaamnbminmcbpaaRows
import Derived.WalkKit
import Derived.ProofKit
import Derived.OpenShut
import Derived.ShutString
import Derived.ChangeOld
import Derived.Below
import Derived.Test.YtaamnbminmcbpaaHufAp
import Derived.Outline
import Derived.RegionTactic
import Derived.ChangeAlike
import Derived.BigQuiet
import Derived.Deep.Slices
import Derived.Deep.SlicePairs
namespace Go.Proofs.Ytaamnbminmcbpaa.huffApart
open Go.ChangeShapes Go.WideShapes Go.ChangeAt Go.RowKit Go.Deep
open Go.Proofs.Ytaamnbminmcbpaa.Gen Go.Proofs.Ytaamnbminmcbpaa.Mp Go.Proofs.Ytaamnbminmcbpaa.Hr Go.Proofs.Ytaamnbminmcbpaa.Hp Go.Proofs.Ytaamnbminmcbpaa.Hm Go.Proofs.Ytaamnbminmcbpaa.Hg Go.Proofs.Ytaamnbminmcbpaa.So Go.Proofs.Ytaamnbminmcbpaa.Hs Go.Proofs.Ytaamnbminmcbpaa.Hf Go.Proofs.Ytaamnbminmcbpaa.Hz Go.Proofs.Ytaamnbminmcbpaa.Ha Go.Proofs.Ytaamnbminmcbpaa.Hc Go.Proofs.Ytaamnbminmcbpaa.Hw Go.Proofs.Ytaamnbminmcbpaa.Ln Go.Proofs.Ytaamnbminmcbpaa.Bp Go.Proofs.Ytaamnbminmcbpaa.Hx
set_option linter.unusedVariables false

theorem own : ownKnob Try.prog.godebug = none := by kernel_rfl
theorem laidOut : laidOutB Try.prog = true := by kernel_rfl

/-- What the walk is told of a slice of integers that came in: it is nil, or a row of cells that hold zs, each of which fits. -/
def IsRow (k : IntKind) (w : World) (a : Option Addr) (len cap : Nat) (zs : List Int) : Prop :=
  (a = none ∧ len = 0 ∧ cap = 0 ∧ zs = []) ∨
  ∃ x, a = some x ∧ len ≤ cap ∧ cap ≤ maxLen ∧ zs.length = cap ∧ (∀ i, i < zs.length → w.cell? (x.add i) = some (.int k (zs.getD i 0))) ∧ ∀ n ∈ zs, (Lit.int k n).wf = true
/-- And of a slice of such slices: it is nil, or each of its cells holds one. -/
def IsRows (k : IntKind) (w : World) (a : Option Addr) (len cap : Nat) : Prop :=
  (a = none ∧ len = 0 ∧ cap = 0) ∨
  ∃ x, a = some x ∧ len ≤ cap ∧ cap ≤ maxLen ∧ ∀ i, i < len → ∃ b n c zs, w.cell? (x.add i) = some (.slice b n c) ∧ IsRow k w b n c zs
/-- And of a slice of structs of two integers. -/
def IsPairs (k0 k1 : IntKind) (w : World) (a : Option Addr) (len cap : Nat) (zs : List (Int × Int)) : Prop :=
  (a = none ∧ len = 0 ∧ cap = 0 ∧ zs = []) ∨
  ∃ x, a = some x ∧ len ≤ cap ∧ cap ≤ maxLen ∧ zs.length = cap ∧ ∀ i, i < zs.length → w.cell? (x.add (i * 2)) = some (.int k0 (zs.getD i (0, 0)).1) ∧ w.cell? (x.add (i * 2 + 1)) = some (.int k1 (zs.getD i (0, 0)).2) ∧ (Lit.int k0 (zs.getD i (0, 0)).1).wf = true ∧ (Lit.int k1 (zs.getD i (0, 0)).2).wf = true
section
variable {H : Type} {enc : TypeId × Value → H} {W : World}
theorem open_pairs {t e : TypeId} {k0 k1 : IntKind} {f0 f1 : Field} {fuel : Nat} {a : Option Addr} {len cap : Nat} {x : DataW H × List MemPlace} (ht : Try.prog.underlying t = some (.slice e)) (he : Try.prog.underlying e = some (.struct #[f0, f1])) (h0 : Try.prog.underlying f0.type = some (.int k0)) (h1 : Try.prog.underlying f1.type = some (.int k1))
    (ce : Try.prog.cellsOf e = 2) (o0 : f0.offset = 0) (o1 : f1.offset = 1) (c0 : Try.prog.cellsOf f0.type = 1) (c1 : Try.prog.cellsOf f1.type = 1)
    (hf : DataW.trod enc Try.prog W 0 (fun _ => true) true fuel t (Value.slice a len cap).cells.toList = some x) : ∃ zs, IsPairs k0 k1 W a len cap zs := by
  rcases open_slice_pairs ht he ce o0 o1 c0 c1 hf with ⟨hcs, _⟩ | ⟨y, l, c, m, n, V0, V1, D0, D1, P0, P1, hcs, _, hl, hm, hmm, _, hi⟩
  · simp [Value.cells] at hcs
    obtain ⟨rfl, rfl, rfl⟩ := hcs
    exact ⟨[], .inl ⟨rfl, rfl, rfl, rfl⟩⟩
  · simp [Value.cells] at hcs
    obtain ⟨rfl, rfl, rfl⟩ := hcs
    simp only [if_true] at hmm
    refine ⟨(List.range cap).map fun i => (intOf (V0 i), intOf (V1 i)), .inr ⟨y, rfl, hl, hm, by simp, fun i hil => ?_⟩⟩
    have hic : i < cap := by simpa using hil
    obtain ⟨g0, g1, g2, g3⟩ := hi i (by omega)
    obtain ⟨n0, e0, _, w0⟩ := DataW.trod_int h0 g2
    obtain ⟨n1, e1, _, w1⟩ := DataW.trod_int h1 g3
    injection e0 with e0
    injection e1 with e1
    rw [e0] at g0
    rw [e1] at g1
    have hz : ((List.range cap).map fun i => (intOf (V0 i), intOf (V1 i))).getD i (0, 0) = (n0, n1) := by
      simp [List.getD_eq_getElem?_getD, hic, e0, e1, intOf]
    rw [hz]
    exact ⟨g0, g1, w0, w1⟩
theorem open_row {t e : TypeId} {k : IntKind} {fuel : Nat} {a : Option Addr} {len cap : Nat} {x : DataW H × List MemPlace} (ht : Try.prog.underlying t = some (.slice e)) (he : Try.prog.underlying e = some (.int k)) (h1 : Try.prog.cellsOf e = 1)
    (hf : DataW.trod enc Try.prog W 0 (fun _ => true) true fuel t (Value.slice a len cap).cells.toList = some x) : ∃ zs, IsRow k W a len cap zs := by
  rcases open_ints ht he h1 hf with ⟨hcs, _⟩ | ⟨x, l, c, zs, hcs, _, hl, hm, hz, _, hcell, hwz⟩
  · simp [Value.cells] at hcs
    obtain ⟨rfl, rfl, rfl⟩ := hcs
    exact ⟨[], .inl ⟨rfl, rfl, rfl, rfl⟩⟩
  · simp [Value.cells] at hcs
    obtain ⟨rfl, rfl, rfl⟩ := hcs
    exact ⟨zs, .inr ⟨_, rfl, hl, hm, by simpa using hz, hcell, hwz⟩⟩
theorem open_rows {t e g : TypeId} {k : IntKind} {fuel : Nat} {a : Option Addr} {len cap : Nat} {x : DataW H × List MemPlace} (ht : Try.prog.underlying t = some (.slice e)) (he : Try.prog.underlying e = some (.slice g)) (hg : Try.prog.underlying g = some (.int k)) (h1 : Try.prog.cellsOf e = 1) (h2 : Try.prog.cellsOf g = 1)
    (hf : DataW.trod enc Try.prog W 0 (fun _ => true) true fuel t (Value.slice a len cap).cells.toList = some x) : IsRows k W a len cap := by
  rcases open_slice ht hf with ⟨hcs, _⟩ | ⟨x, l, c, m, n, D, Pl, hcs, _, hl, hm, hmm, _, hi⟩
  · simp [Value.cells] at hcs
    obtain ⟨rfl, rfl, rfl⟩ := hcs
    exact .inl ⟨rfl, rfl, rfl⟩
  · simp [Value.cells] at hcs
    obtain ⟨rfl, rfl, rfl⟩ := hcs
    refine .inr ⟨x, rfl, hl, hm, fun i hil => ?_⟩
    simp only [if_true] at hmm
    obtain ⟨cs, hc, htr⟩ := hi i (by omega)
    rw [h1, Nat.mul_one] at hc
    obtain ⟨_, hlen, hat⟩ := World.cells?_some hc
    have h0 := hat 0 (by omega)
    have ha0 : (x.add i).add 0 = x.add i := by rw [Go.Deep.add_add]; rfl
    rw [ha0] at h0
    rcases open_ints he hg h2 htr with ⟨hcs, _⟩ | ⟨y, l', c', zs, hcs, _, hl', hm', hz, _, hcell, hwz⟩
    · subst hcs
      exact ⟨none, 0, 0, [], by simpa using h0, .inl ⟨rfl, rfl, rfl, rfl⟩⟩
    · subst hcs
      exact ⟨some y, l', c', zs, by simpa using h0, .inr ⟨y, rfl, hl', hm', by simpa using hz, hcell, hwz⟩⟩
end
def ints (m : List (Int × Nat)) : List (Int × Int) := m.map fun p => (p.1, (p.2 : Int))
theorem mi_ints (m : List (Int × Nat)) : mi (ints m) = mv m := by simp [mi, ints, mv, Function.comp_def]
theorem nats_ints (m : List (Int × Nat)) : nats (ints m) = m := by
  simp only [nats, ints, List.map_map]
  conv => rhs; rw [← List.map_id m]
  exact List.map_congr_left fun p _ => by simp
theorem ints_len (m : List (Int × Nat)) : (ints m).length = m.length := by simp [ints]
theorem ints_good {m : List (Int × Nat)} (h : Small m) : ∀ p ∈ ints m, Hz.Good p := by
  intro p hp
  simp only [ints, List.mem_map] at hp
  obtain ⟨q, hq, rfl⟩ := hp
  have := h q hq
  unfold Hz.Good
  simp only
  omega
/-- A row's value out of what tells it. -/
structure Sl where
  A : Option Addr
  n : Nat
  c : Nat
def mkS (t : Sl) : Value := .slice t.A t.n t.c
theorem words_shape {w : World} {bm : Nat} {T : List (Int × Nat × Nat)} {M : List (Lit × Value)} (h : Fa (Wrd w bm) T M) : ∀ p ∈ M, ∃ c, p.2 = mkS c := by
  intro p hp
  obtain ⟨t, _, _, A, c, e, _⟩ := h.mem p hp
  exact ⟨⟨A, t.2.1, c⟩, e⟩
/-- One word of the map. -/
theorem word_of {w : World} {bm : Nat} {L : List (Int × Nat)} {M : List (Lit × Value)} (h : Fa (Wrd w bm) (wordsOf L) M) {x : Int} {c : Sl} (hm : (Lit.int .i64 x, mkS c) ∈ M) :
    ∃ A z v k, c = ⟨A, z, k⟩ ∧ z ≤ k ∧ (x, z, v) ∈ wordsOf L ∧ Lies w A (Bq.ib (tb v z)) ∧ ∀ b o, A = some ⟨b, o, none⟩ → b ≠ bm := by
  obtain ⟨t, ht, e1, A, k, e2, h3, h4, h5⟩ := h.mem _ hm
  obtain ⟨x', z, v⟩ := t
  simp only at e1 e2 h3 h4
  injection e1 with _ e1
  subst e1
  obtain ⟨c1, c2, c3⟩ := c
  simp only [mkS] at e2
  injection e2 with e2 e3 e4
  subst e2 e3 e4
  exact ⟨_, _, v, _, rfl, h3, ht, h4, h5⟩
theorem size_u8 (w : World) : (sizeOf 5).run Try.prog w = .ok 1 w := by
  obtain ⟨i0, hi0, hz0, hz1, hz2⟩ := info_parts Cl.u8_info
  simp [sizeOf, typeInfo, hi0, hz1]
theorem run_cut_to {P : Program} (t e : TypeId) (A : Option Addr) (n c m : Nat) (kh : IntKind) (ht : P.underlying t = some (.slice e)) (he : ∀ w, (sizeOf e).run P w = .ok 1 w) (hk : m ≤ c) (w : World) :
    (Instr.slice t (.slice A n c) none (some (.int kh m)) none).run P w = .ok (.slice (cutAt A c 0) m c) w := by
  have hel : P.elem t = e := by simp [Program.elem, ht]
  rw [run_slice_h (P := P) w t A n c (by rw [hel]; exact ht) kh m (by omega) (by omega), hel, he]
  simp only [Result.andThen, sliced, Int.toNat_natCast]
  rfl
set_option maxHeartbeats 40000000 in
set_option maxRecDepth 100000 in
theorem walk (a0 : Option Addr) (len0 cap0 : Nat) (z0 : List (Int × Int)) (w : World) (w0 : IsPairs .i16 .u16 w a0 len0 cap0 z0) :
    Calls Try.prog 7 #[.slice a0 len0 cap0] w fun e w' => e = .returned (.bool true) ∧ Below w.heap.size w w' := by
  have HP := Lib.hid (pairs_at w0)
  clear w0
  go_enter Try.func7, Try.ntmps7
  go_wp2_with fail
  refine (awake_ _).mono ?_
  rintro e w1 ⟨rfl, hk1⟩
  have HK1 := Lib.hid hk1
  clear hk1
  by_cases hbig : 100 < len0
  · have hbi : (100 : Int) < (len0 : Int) := by omega
    clear hbig
    go_wp2
    go_ret
    exact ⟨rfl, HK1.out.below (Nat.le_refl _) (fun _ h => h.elim)⟩
  have hbi : ¬ ((100 : Int) < (len0 : Int)) := by omega
  have hle : len0 ≤ 1000 := by omega
  clear hbig
  go_wp2_with fail
  refine (counts_ a0 len0 cap0 30 w1 (HP.out.keeps HK1.out) hle (by omega)).mono ?_
  rintro e w2 ⟨b, rfl, m, him, hb, hml, hsm, hk2⟩
  have HM2 : Hid (IsM Try.prog 3 w2 b (mi (ints m))) := by show IsM _ _ _ _ _; rw [mi_ints]; exact him
  obtain ⟨n, hn⟩ : ∃ n, n = m.length := ⟨_, rfl⟩
  have HN := Lib.hid hn
  have HSM := Lib.hid hsm
  have HK2 := Lib.hid (HK1.out.trans hk2)
  rw [← hn] at hml
  clear him hk2 hsm hb hn
  go_wp2_with fail
  refine (sizes_ b n (ints m) w2 HM2.out (by rw [ints_len]; exact HN.out.symm) (by omega)).mono ?_
  rintro e w3 ⟨ha, hk3⟩
  have HM3 : Hid (IsM Try.prog 3 w3 b (mv m)) := by show IsM _ _ _ _ _; rw [← mi_ints]; exact HM2.out.keeps hk3 id
  have HK3 := Lib.hid (HK2.out.trans hk3)
  rcases ha with ⟨h0, rfl⟩ | ⟨_, ⟨p, hp, hb⟩, _⟩ | ⟨hn1, _, g, L, rfl, hbl, hg, hLl, hs⟩
  · obtain rfl : n = 0 := by omega
    clear hk3 h0
    go_wp2_with (
      at_len
      refine wpList_len_m _ rfl _ _ rfl 3 3 Try.underlying24 b 0 (mv m) rfl HM3.out (by rw [mv_len]; exact HN.out.symm) ?_)
    go_ret
    exact ⟨rfl, HK3.out.below (Nat.le_refl _) (fun _ h => h.elim)⟩
  · exact absurd (ints_good HSM.out p hp) hb
  rw [nats_ints] at hs
  have HS := Lib.hid hs
  have HZ := Lib.hid (sizes_small hs)
  have HR : Hid (posOf L = 2 ^ 20) := sizes_room hs (by rw [← HN.out]; omega) (by rw [← HN.out]; omega)
  have HX : Hid (∀ p ∈ L, (Lit.int .i64 p.1).wf = true) := by
    intro p hp
    obtain ⟨q, hq, e⟩ := keys_from HS.out p hp
    have := HSM.out q hq
    rw [← e]
    exact wf_of (by omega)
  have HB := Lib.hid hbl
  have HLL := Lib.hid hLl
  have HSK := Lib.hid (keys_nodup hs)
  clear hk3 hs hbl hg hLl
  go_wp2_with fail
  refine (words_ (some ⟨g, 0, none⟩) n n L w3 (row_blk HB.out) HLL.out (by omega) HZ.out HX.out HSK.out).mono ?_
  rintro e w4 ⟨hk4, ⟨h, _⟩ | ⟨_, bm, rfl, hbm, M, hM, hF⟩⟩
  · rw [HR.out] at h
    exact absurd h (Nat.lt_irrefl _)
  have HM4 := Lib.hid hM
  have HF := Lib.hid hF
  have HC4 := Lib.hid (HM3.out.keeps hk4 id)
  have HK4 := Lib.hid (HK3.out.trans hk4)
  have HML : Hid (M.length = n) := by show M.length = n; rw [← hF.len, words_len HZ.out, HLL.out]
  clear hk4 hbm hM hF HM2 HM3
  go_wp2_with (
    at_range
    refine wpList_range_m _ rfl _ _ rfl 3 38 int_key Try.underlying40 bm M rfl HM4.out ?_
    intro w5 hrg5 hk5
    have HR5 := Lib.hid hrg5
    have HK5 := Lib.hid hk5
    clear hrg5 hk5)
  go_frame
  obtain ⟨r1, hr1⟩ : ∃ r1, r1 = w4.heap.size := ⟨_, rfl⟩
  rw [← hr1] at HR5 ⊢
  have HR1 := Lib.hid hr1
  clear hr1
  go_loopw [7, 8] (fun _ _ wr => ∃ (met : List (Lit × Value)) (cn : Nat), Rgs Try.prog 3 wr bm r1 M met cn ∧ Keeps (fun _ => False) w4 wr) (fun _ _ wr => wr.rangeLeft bm r1)
  case atStart => exact ⟨[], _, HR5.out, HK5.out⟩
  case round =>
    clear HR5 HK5
    obtain ⟨met, cn, hrg, hk⟩ := hrel
    have HRG := Lib.hid hrg
    have HK := Lib.hid hk
    clear hrg hk
    go_wp2_with (
      at_next
      refine wpList_next_m _ rfl _ rfl 3 int_key (Value.int .i64) mkS int_shape bm r1 M met cn (words_shape HF.out) rfl HRG.out ?_ ?_)
    · intro hperm
      clear hperm
      have HM6 := Lib.hid HRG.out.isM
      have HC6 := Lib.hid (HC4.out.keeps HK.out id)
      go_wp2_with (first
        | (at_len
           refine wpList_len_m _ rfl _ _ rfl 3 38 Try.underlying40 bm n M rfl HM6.out HML.out ?_
           clear HM6)
        | (at_len
           refine wpList_len_m _ rfl _ _ rfl 3 3 Try.underlying24 b n (mv m) rfl HC6.out (by rw [mv_len]; exact HN.out.symm) ?_))
      go_ret
      exact ⟨by simp, (HK4.out.trans HK.out).below (Nat.le_refl _) (fun _ h => h.elim)⟩
    · intro x c kl w6 cn6 hkey hmem hnew hrg6 hlt hk6 hen
      obtain ⟨x', hx1, rfl, hwx⟩ := Go.Maps.keyOf_int_inv Try.underlying3 hkey
      injection hx1 with _ hx1
      subst hx1
      obtain ⟨A, z, v, k, rfl, hzk, hwd, hly, hA⟩ := word_of HF.out hmem
      simp only [mkS] at hrg6 hen ⊢
      have HRG6 := Lib.hid hrg6
      have HK6 := Lib.hid (keeps_low HK.out hk6 (fun y hy => by have := HR1.out; omega))
      have HLT := Lib.hid hlt
      have HWX := Lib.hid hwx
      have HWD := Lib.hid hwd
      have HLY := Lib.hid hly
      have HM6 := Lib.hid hrg6.isM
      clear hkey hmem hnew hrg6 hlt hk6 hwx hwd hly hA
      go_wp2_with (
        at_range
        refine wpList_range_m _ rfl _ _ rfl 3 38 int_key Try.underlying40 bm M rfl HM6.out ?_
        intro w7 hrg7 hk7
        have HR7 := Lib.hid hrg7
        have HK7 := Lib.hid hk7
        clear hrg7 hk7)
      clear hen
      obtain ⟨r2, hr2⟩ : ∃ r2, r2 = w6.heap.size := ⟨_, rfl⟩
      rw [← hr2] at HR7 ⊢
      have HR2 := Lib.hid hr2
      clear hr2
      go_loopw [9, 10] (fun _ _ wx => ∃ (met2 : List (Lit × Value)) (cn2 : Nat), Rgs Try.prog 3 wx bm r2 M met2 cn2 ∧ Keeps (fun _ => False) w6 wx) (fun _ _ wx => wx.rangeLeft bm r2)
      case atStart => exact ⟨[], _, HR7.out, HK7.out⟩
      case round =>
        clear HR7 HK7
        obtain ⟨met2, cn2, hrg8, hk8⟩ := hrel
        have HRG8 := Lib.hid hrg8
        have HK8 := Lib.hid hk8
        clear hrg8 hk8
        go_wp2_with (
          at_next
          refine wpList_next_m _ rfl _ rfl 3 int_key (Value.int .i64) mkS int_shape bm r2 M met2 cn2 (words_shape HF.out) rfl HRG8.out ?_ ?_)
        · intro hperm
          clear hperm
          have HRGO := Lib.hid (HRG6.out.keeps HK8.out id id)
          have HLO : Hid (wr.rangeLeft bm r1 < cn) := by show _ < _; rw [HRGO.out.left_eq]; exact HLT.out
          clear HLO
          go_wp2
          refine ⟨⟨_, _, HRGO.out, HK6.out.trans HK8.out⟩, ?_⟩
          rw [HRG.out.left_eq, HRGO.out.left_eq]
          exact HLT.out
        · intro y c2 kl2 w8 cn8 hkey2 hmem2 hnew2 hrg9 hlt2 hk9 hen2
          obtain ⟨y', hy1, rfl, hwy⟩ := Go.Maps.keyOf_int_inv Try.underlying3 hkey2
          injection hy1 with _ hy1
          subst hy1
          obtain ⟨A2, z2, v2, k2, rfl, hzk2, hwd2, hly2, hA2⟩ := word_of HF.out hmem2
          simp only [mkS] at hrg9 hen2 ⊢
          have HRG9 := Lib.hid hrg9
          have HK9 := Lib.hid (keeps_low HK8.out hk9 (fun y hy => by have := HR2.out; omega))
          have HLT2 := Lib.hid hlt2
          have HWD2 := Lib.hid hwd2
          have HKW := Lib.hid (HK6.out.trans HK9.out)
          have hlx := HLY.out.keeps HKW.out (fun _ _ _ h => h)
          have hly := hly2.keeps HKW.out (fun _ _ _ h => h)
          have HC9 := Lib.hid (HC4.out.keeps HKW.out id)
          have HWY := Lib.hid hwy
          clear hkey2 hmem2 hnew2 hrg9 hlt2 hk9 hwd2 hA2 hwy
          go_upto_region 16 with fail
          go_cut [63] from 44 to 63 (fun sl wx => sl = .bool false ∧ Keeps (fun _ => False) w8 wx)
          case first =>
            by_cases hxy : x = y
            · subst hxy
              have hb : (!decide (x = x)) = false := by simp
              go_big_quiet (fail)
              all_goals go_wp2_with fail
              all_goals go_meet
              all_goals exact ⟨by simp, (Keeps.refl _ _).drewN _⟩
            · have hb : decide (x = y) = false := by simpa using hxy
              have hb1 : (x != y) = true := by simpa using hxy
              have hb2 : (x == y) = false := by simpa using hxy
              have hb3 : (!decide (x = y)) = true := by simpa using hxy
              by_cases hzz : z ≤ z2
              · have hzi : decide ((z : Int) ≤ (z2 : Int)) = true := by simpa using hzz
                have hcx := fun q => (show Lies (w8.drewN q) A (Bq.ib (tb v z)) from hlx.keeps ((Keeps.refl (fun _ => False) w8).drewN q) (fun _ _ _ h => h)).str_n (P := Try.prog) z (by simp [Bq.ib_len, tb_len]) 38 9 5 k Try.underlying38 Try.underlying5 Try.underlying9
                have hly3 := hly.cutAt k2 0 z (by simp [Bq.ib_len, tb_len]; exact hzk2) (by simp [Bq.ib_len, tb_len]; exact hzz)
                rw [List.drop_zero] at hly3
                have hcy := fun q => (hly3.keeps ((Keeps.refl (fun _ => False) w8).drewN q) (fun _ _ _ h => h)).str_n (P := Try.prog) z (by simp [Bq.ib_len, tb_len]; omega) 38 9 5 k2 Try.underlying38 Try.underlying5 Try.underlying9
                have hcut := fun w => run_cut_to (P := Try.prog) 38 5 A2 z2 k2 z .i64 Try.underlying38 size_u8 (by omega) w
                have hne := not_begun HZ.out (by rw [HR.out]; exact Nat.le_refl _) HWD.out HWD2.out hxy hzz
                simp only at hne
                obtain ⟨S1, hS1⟩ : ∃ S1, S1 = strOfNums (Bq.ib (tb v z)) := ⟨_, rfl⟩
                obtain ⟨S2, hS2⟩ : ∃ S2, S2 = strOfNums ((Bq.ib (tb v2 z2)).take z) := ⟨_, rfl⟩
                simp only [← hS1] at hcx hne
                simp only [← hS2] at hcy hne
                have hnd : decide (S1.toList = S2.toList) = false := by simpa using hne
                clear hlx hly hly3 hS1 hS2
                go_big_quiet (fail)
                all_goals go_wp2_with fail
                all_goals go_meet
                all_goals exact ⟨by simp [hne], (Keeps.refl _ _).drewN _⟩
              · have hzi : decide ((z : Int) ≤ (z2 : Int)) = false := by simp; omega
                go_big_quiet (fail)
                all_goals go_wp2_with fail
                all_goals go_meet
                all_goals exact ⟨by simp, (Keeps.refl _ _).drewN _⟩
          case rest =>
            obtain ⟨rfl, hk10⟩ := hcut
            have HK10 := Lib.hid hk10
            have HRG10 := Lib.hid (HRG9.out.keeps hk10 id id)
            have hlookx := look_cnt (HC9.out.keeps hk10 id) ⟨x, HWX.out⟩
            have hlooky := look_cnt (HC9.out.keeps hk10 id) ⟨y, HWY.out⟩
            simp only at hlookx hlooky
            have HCM : Hid (cnt m y < cnt m x → z ≤ z2) := fun h => commoner HS.out (words_mem HWD.out) (words_mem HWD2.out) h
            obtain ⟨p, hp⟩ : ∃ p, p = cnt m x := ⟨_, rfl⟩
            obtain ⟨q, hq⟩ : ∃ q, q = cnt m y := ⟨_, rfl⟩
            rw [← hp] at hlookx HCM
            rw [← hq] at hlooky HCM
            clear hk10 hp hq hlx hly
            by_cases hc : q < p
            · have hci : decide ((q : Int) < (p : Int)) = true := by simpa using hc
              have hzz : decide ((z2 : Int) < (z : Int)) = false := by have := HCM.out hc; simp; omega
              have hzn : z ≤ z2 := HCM.out hc
              have hzd : decide (z2 < z) = false := by simp; omega
              go_wp2
              refine ⟨⟨_, _, HRG10.out, HK9.out.trans HK10.out⟩, ?_⟩
              rw [HRG8.out.left_eq, HRG10.out.left_eq]
              exact HLT2.out
            · have hci : decide ((q : Int) < (p : Int)) = false := by simp; omega
              go_wp2
              refine ⟨⟨_, _, HRG10.out, HK9.out.trans HK10.out⟩, ?_⟩
              rw [HRG8.out.left_eq, HRG10.out.left_eq]
              exact HLT2.out

set_option maxRecDepth 100000 in
theorem lifted (os : Os) (started : os.Started) (H : Type) (enc : TypeId × Value → H) :
    ReturnsInHanded {} Try.checked os 7 .any (Rows.huffApartSpec.pre6 enc Try.prog Try.f7 Rows.huffApartRow.domain false) (Rows.huffApartSpec.post enc Try.prog Try.f7 false true false false) := by
  refine returnsInHanded_of_change (C := Try.checked) own started (by kernel_rfl) Try.func7
    (ChangeSpec.witness6 (enc := enc) (C := Try.checked) false ⟨#[], #[.slice none 0 0], []⟩ 8 (by kernel_rfl) (by kernel_rfl) (by kernel_rfl) (by kernel_rfl)) ?_
  intro W base args ds gs before hval0 hW hcnd _
  have hval : ∀ (j : Nat) t v, Try.f7.params[j]? = some t → args[j]? = some v → Value.okWide Try.prog W .any base t v := hval0
  have hW' := hW
  obtain ⟨p, q, hA0, hV, rfl, hfz, hnd⟩ := hW
  have hA : DataW.TrodAll enc Try.prog W 0 (fun _ => true) true Try.f7.params.toList args.toList ds p := hA0
  rw [Try.params7] at hA hval
  obtain ⟨v0, vs0, d0, ds0, p0, q0, hargs, rfl, rfl, h0, r0⟩ := trodAll_cons hA
  obtain ⟨rfl, rfl, rfl⟩ := trodAll_nil r0
  obtain rfl : args = #[v0] := by cases args; simp_all
  obtain ⟨rfl, rfl⟩ := trodVars_none hV
  obtain ⟨a0, len0, cap0, rfl⟩ := okWide_slice Try.underlying22 (hval 0 22 v0 rfl rfl)
  have k0 := h0
  have lt0 : ∀ x ∈ p0, x.block < W.heap.size := by obtain ⟨m, hm⟩ := k0; exact DataW.trod_lt m _ _ _ hm
  obtain ⟨z0, w0⟩ : ∃ zs, IsPairs .i16 .u16 W a0 len0 cap0 zs := by
    obtain ⟨fuel, hf⟩ := h0
    exact open_pairs Try.underlying22 Try.underlying63 Try.underlying61 Try.underlying59 (by kernel_rfl) rfl rfl (by kernel_rfl) (by kernel_rfl) hf
  clear hA0 hval0
  refine (walk a0 len0 cap0 z0 W w0).mono fun e W' ⟨he, bel⟩ => ?_
  subst he
  exact ⟨_, rfl, _, _, _, [], _, [], hW', trodAll_mk1 (shut_bool Try.underlying4 _), (trodAll_cons_mk (Below.trod laidOut (by kernel_rfl) (of_decide_eq_true (by kernel_rfl)) k0 bel lt0) trodAll_mk0), rfl, bel.frame _, fun h => by cases h⟩

theorem over : Rows.huffApartRow.holds Try.pinned (OpenSpec.ofChange Rows.huffApartSpec) :=
  OpenClaim.holds_of_wide 7 Try.f7 rfl rfl rfl rfl rfl rfl rfl ⟨rfl, rfl, rfl, rfl, rfl⟩ rfl rfl rfl rfl rfl (by kernel_rfl) Try.func7 (by kernel_rfl)
    (of_decide_eq_true (by kernel_rfl)) (by unfold Func.isWrapper; first | (rw [if_pos (by decide +kernel)]; kernel_rfl) | (rw [if_neg (by decide +kernel)]; exact ⟨rfl, rfl⟩))
    (fun os started H enc _ => lifted os started H enc)

/-- The statement, as given. -/
theorem proved : Rows.HuffApartSaid :=
  over
end Go.Proofs.Ytaamnbminmcbpaa.huffApart
namespace Go.Proofs.Ytaamnbminmcbpaa
/-- The statement, as given. -/
theorem huffApart_holds : Rows.HuffApartSaid := huffApart.proved
#print axioms huffApart_holds
end Go.Proofs.Ytaamnbminmcbpaa
