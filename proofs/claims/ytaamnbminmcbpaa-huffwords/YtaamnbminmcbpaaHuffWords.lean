/- The statement HuffWords (P5.2: any entries: their words, or what is wrong) holds for every input: the Go function answers true, and its arguments read as before. No conditions beyond the row's own. -/
import Derived.Test.YtaamnbminmcbpaaRows
import Derived.WalkKit
import Derived.ProofKit
import Derived.OpenShut
import Derived.ShutString
import Derived.ChangeOld
import Derived.Below
import Derived.Test.YtaamnbminmcbpaaHufBk
import Derived.Test.YtaamnbminmcbpaaHufRb
import Derived.Outline
import Derived.RegionTactic
import Derived.ChangeAlike
import Derived.BigQuiet
import Derived.Deep.CutBlock
import Derived.Deep.RegionHeld3
import Derived.Laws.IdiomRangeMap
import Derived.Deep.Slices
import Derived.Deep.SlicePairs
namespace Go.Proofs.Ytaamnbminmcbpaa.huffWords
open Go.ChangeShapes Go.WideShapes Go.ChangeAt Go.RowKit Go.Deep
open Go.Proofs.Ytaamnbminmcbpaa.Gen Go.Proofs.Ytaamnbminmcbpaa.Mp Go.Proofs.Ytaamnbminmcbpaa.Hr Go.Proofs.Ytaamnbminmcbpaa.Hp Go.Proofs.Ytaamnbminmcbpaa.Hm Go.Proofs.Ytaamnbminmcbpaa.Hg Go.Proofs.Ytaamnbminmcbpaa.So Go.Proofs.Ytaamnbminmcbpaa.Hs Go.Proofs.Ytaamnbminmcbpaa.Hf Go.Proofs.Ytaamnbminmcbpaa.Hz Go.Proofs.Ytaamnbminmcbpaa.Ha Go.Proofs.Ytaamnbminmcbpaa.Hc Go.Proofs.Ytaamnbminmcbpaa.Hw Go.Proofs.Ytaamnbminmcbpaa.Ln Go.Proofs.Ytaamnbminmcbpaa.Bp Go.Proofs.Ytaamnbminmcbpaa.Hx Go.Proofs.Ytaamnbminmcbpaa.Hn Go.Proofs.Ytaamnbminmcbpaa.Hk Go.Proofs.Ytaamnbminmcbpaa.Hu Go.Proofs.Ytaamnbminmcbpaa.Hb
set_option linter.unusedVariables false

theorem own : ownKnob Try.prog.godebug = none := by kernel_rfl
theorem laidOut : laidOutB Try.prog = true := by kernel_rfl

/-- What the walk is told of a slice of integers that came in: it is nil, or a row of cells that hold zs, each of which fits. -/
def IsRow (k : IntKind) (w : World) (a : Option Addr) (len cap : Nat) (zs : List Int) : Prop :=
  (a = none ∧ len = 0 ∧ cap = 0 ∧ zs = []) ∨
  ∃ x, a = some x ∧ len ≤ cap ∧ cap ≤ maxLen ∧ zs.length = cap ∧ (∀ i, i < zs.length → w.cell? (x.add i) = some (.int k (zs.getD i 0))) ∧ ∀ n ∈ zs, (Lit.int k n).wf = true
/-- And of a slice of such slices: it is nil, or each of its cells holds one. -/
def IsRows (k : IntKind) (w : World) (a : Option Addr) (len cap : Nat) : Prop :=
  (a = none ∧ len = 0 ∧ cap = 0) ∨
  ∃ x, a = some x ∧ len ≤ cap ∧ cap ≤ maxLen ∧ ∀ i, i < len → ∃ b n c zs, w.cell? (x.add i) = some (.slice b n c) ∧ IsRow k w b n c zs
/-- And of a slice of structs of two integers. -/
def IsPairs (k0 k1 : IntKind) (w : World) (a : Option Addr) (len cap : Nat) (zs : List (Int × Int)) : Prop :=
  (a = none ∧ len = 0 ∧ cap = 0 ∧ zs = []) ∨
  ∃ x, a = some x ∧ len ≤ cap ∧ cap ≤ maxLen ∧ zs.length = cap ∧ ∀ i, i < zs.length → w.cell? (x.add (i * 2)) = some (.int k0 (zs.getD i (0, 0)).1) ∧ w.cell? (x.add (i * 2 + 1)) = some (.int k1 (zs.getD i (0, 0)).2) ∧ (Lit.int k0 (zs.getD i (0, 0)).1).wf = true ∧ (Lit.int k1 (zs.getD i (0, 0)).2).wf = true
section
variable {H : Type} {enc : TypeId × Value → H} {W : World}
theorem open_pairs {t e : TypeId} {k0 k1 : IntKind} {f0 f1 : Field} {fuel : Nat} {a : Option Addr} {len cap : Nat} {x : DataW H × List MemPlace} (ht : Try.prog.underlying t = some (.slice e)) (he : Try.prog.underlying e = some (.struct #[f0, f1])) (h0 : Try.prog.underlying f0.type = some (.int k0)) (h1 : Try.prog.underlying f1.type = some (.int k1))
    (ce : Try.prog.cellsOf e = 2) (o0 : f0.offset = 0) (o1 : f1.offset = 1) (c0 : Try.prog.cellsOf f0.type = 1) (c1 : Try.prog.cellsOf f1.type = 1)
    (hf : DataW.trod enc Try.prog W 0 (fun _ => true) true fuel t (Value.slice a len cap).cells.toList = some x) : ∃ zs, IsPairs k0 k1 W a len cap zs := by
  rcases open_slice_pairs ht he ce o0 o1 c0 c1 hf with ⟨hcs, _⟩ | ⟨y, l, c, m, n, V0, V1, D0, D1, P0, P1, hcs, _, hl, hm, hmm, _, hi⟩
  · simp [Value.cells] at hcs
    obtain ⟨rfl, rfl, rfl⟩ := hcs
    exact ⟨[], .inl ⟨rfl, rfl, rfl, rfl⟩⟩
  · simp [Value.cells] at hcs
    obtain ⟨rfl, rfl, rfl⟩ := hcs
    simp only [if_true] at hmm
    refine ⟨(List.range cap).map fun i => (intOf (V0 i), intOf (V1 i)), .inr ⟨y, rfl, hl, hm, by simp, fun i hil => ?_⟩⟩
    have hic : i < cap := by simpa using hil
    obtain ⟨g0, g1, g2, g3⟩ := hi i (by omega)
    obtain ⟨n0, e0, _, w0⟩ := DataW.trod_int h0 g2
    obtain ⟨n1, e1, _, w1⟩ := DataW.trod_int h1 g3
    injection e0 with e0
    injection e1 with e1
    rw [e0] at g0
    rw [e1] at g1
    have hz : ((List.range cap).map fun i => (intOf (V0 i), intOf (V1 i))).getD i (0, 0) = (n0, n1) := by
      simp [List.getD_eq_getElem?_getD, hic, e0, e1, intOf]
    rw [hz]
    exact ⟨g0, g1, w0, w1⟩
theorem open_row {t e : TypeId} {k : IntKind} {fuel : Nat} {a : Option Addr} {len cap : Nat} {x : DataW H × List MemPlace} (ht : Try.prog.underlying t = some (.slice e)) (he : Try.prog.underlying e = some (.int k)) (h1 : Try.prog.cellsOf e = 1)
    (hf : DataW.trod enc Try.prog W 0 (fun _ => true) true fuel t (Value.slice a len cap).cells.toList = some x) : ∃ zs, IsRow k W a len cap zs := by
  rcases open_ints ht he h1 hf with ⟨hcs, _⟩ | ⟨x, l, c, zs, hcs, _, hl, hm, hz, _, hcell, hwz⟩
  · simp [Value.cells] at hcs
    obtain ⟨rfl, rfl, rfl⟩ := hcs
    exact ⟨[], .inl ⟨rfl, rfl, rfl, rfl⟩⟩
  · simp [Value.cells] at hcs
    obtain ⟨rfl, rfl, rfl⟩ := hcs
    exact ⟨zs, .inr ⟨_, rfl, hl, hm, by simpa using hz, hcell, hwz⟩⟩
theorem open_rows {t e g : TypeId} {k : IntKind} {fuel : Nat} {a : Option Addr} {len cap : Nat} {x : DataW H × List MemPlace} (ht : Try.prog.underlying t = some (.slice e)) (he : Try.prog.underlying e = some (.slice g)) (hg : Try.prog.underlying g = some (.int k)) (h1 : Try.prog.cellsOf e = 1) (h2 : Try.prog.cellsOf g = 1)
    (hf : DataW.trod enc Try.prog W 0 (fun _ => true) true fuel t (Value.slice a len cap).cells.toList = some x) : IsRows k W a len cap := by
  rcases open_slice ht hf with ⟨hcs, _⟩ | ⟨x, l, c, m, n, D, Pl, hcs, _, hl, hm, hmm, _, hi⟩
  · simp [Value.cells] at hcs
    obtain ⟨rfl, rfl, rfl⟩ := hcs
    exact .inl ⟨rfl, rfl, rfl⟩
  · simp [Value.cells] at hcs
    obtain ⟨rfl, rfl, rfl⟩ := hcs
    refine .inr ⟨x, rfl, hl, hm, fun i hil => ?_⟩
    simp only [if_true] at hmm
    obtain ⟨cs, hc, htr⟩ := hi i (by omega)
    rw [h1, Nat.mul_one] at hc
    obtain ⟨_, hlen, hat⟩ := World.cells?_some hc
    have h0 := hat 0 (by omega)
    have ha0 : (x.add i).add 0 = x.add i := by rw [Go.Deep.add_add]; rfl
    rw [ha0] at h0
    rcases open_ints he hg h2 htr with ⟨hcs, _⟩ | ⟨y, l', c', zs, hcs, _, hl', hm', hz, _, hcell, hwz⟩
    · subst hcs
      exact ⟨none, 0, 0, [], by simpa using h0, .inl ⟨rfl, rfl, rfl, rfl⟩⟩
    · subst hcs
      exact ⟨some y, l', c', zs, by simpa using h0, .inr ⟨y, rfl, hl', hm', by simpa using hz, hcell, hwz⟩⟩
end
theorem row_pairs {w : World} {a : Option Addr} {len cap : Nat} {zs : List (Int × Int)}
    (h : (a = none ∧ len = 0 ∧ cap = 0 ∧ zs = []) ∨ ∃ x, a = some x ∧ len ≤ cap ∧ cap ≤ maxLen ∧ zs.length = cap ∧ ∀ i, i < zs.length → w.cell? (x.add (i * 2)) = some (.int .i64 (zs.getD i (0, 0)).1) ∧ w.cell? (x.add (i * 2 + 1)) = some (.int .i64 (zs.getD i (0, 0)).2) ∧ (Lit.int .i64 (zs.getD i (0, 0)).1).wf = true ∧ (Lit.int .i64 (zs.getD i (0, 0)).2).wf = true) :
    RowAt w a (gvs (zs.take len)) ∧ (zs.take len).length = len := by
  rcases h with ⟨rfl, rfl, rfl, rfl⟩ | ⟨x, rfl, hl, _, hz, hc⟩
  · exact ⟨.inl rfl, rfl⟩
  · have htl : (zs.take len).length = len := by simp; omega
    refine ⟨?_, htl⟩
    rcases Nat.eq_zero_or_pos len with h0 | h0
    · exact .inl (by rw [h0]; rfl)
    · obtain ⟨b, o, sp⟩ := x
      have hsp : sp = none := by simpa [Addr.add] using World.cell?_spot (hc 0 (by omega)).1
      subst hsp
      have hbl : b < w.heap.size := by
        have h1 := (hc 0 (by omega)).1
        rw [add_none] at h1
        rcases Nat.lt_or_ge b w.heap.size with hlt | hge
        · exact hlt
        · simp [World.cell?, Array.getElem?_eq_none hge] at h1
      have hgd : ∀ j, j < len → (zs.take len).getD j (0, 0) = zs.getD j (0, 0) := fun j hj => by
        rw [List.getD, List.getElem?_take_of_lt hj]; rfl
      refine .inr ⟨b, o, rfl, hbl, fun i hi => ?_⟩
      rw [gvs_len, htl] at hi
      obtain ⟨j, hj⟩ : ∃ j, i = j * 2 ∨ i = j * 2 + 1 := ⟨i / 2, by omega⟩
      have hjl : j < len := by omega
      obtain ⟨h1, h2, _⟩ := hc j (by omega)
      rw [add_none] at h1 h2
      rcases hj with rfl | rfl
      · rw [h1, gvs_get0 _ _ (by omega), hgd j hjl]
      · rw [h2, gvs_get1 _ _ (by omega), hgd j hjl]
/-- The entries that small numbers make. -/
def nearL (zs : List Int) (d : Nat) : List G := (List.range d).map fun i : Nat => (3 * (i : Int), 1 + zs.getD i 0 % 7)
theorem nearL_len (zs : List Int) (d : Nat) : (nearL zs d).length = d := by simp [nearL]
theorem nearL_next (zs : List Int) (d : Nat) : nearL zs (d + 1) = nearL zs d ++ [(3 * (d : Int), 1 + zs.getD d 0 % 7)] := by simp [nearL, List.range_succ]
theorem gvs_app (a b : List G) : gvs (a ++ b) = gvs a ++ gvs b := by simp [gvs]
theorem ent_info' : (Try.prog.info? 34).map (fun i => (i.zero, i.size, i.bytes)) = some (some (.agg #[.int .i64 0, .int .i64 0]), 2, 16) := by kernel_rfl
theorem ecell_two (w : World) (x y : Value) (t : TypeId) : ∀ (j : Nat) (u : Value), [x, y][j]? = some u → (w.alloc (.cells #[x, y] t)).cell? ((⟨w.heap.size, 0, none⟩ : Addr).add j) = some u := by
  intro j u hu
  rw [add_none, (Blk.new w t #[x, y]).cell]
  simpa using hu
theorem own_row {w : World} {base : Nat} {A : Option Addr} {n c : Nat} {L : List G} (h : w.ownsRow base 34 2 (.slice A n c) n (gvs L)) (hn : L.length = n) : RowAt w A (gvs L) := by
  rcases h.2 with ⟨hv, h0⟩ | ⟨g, cap, cur, hv, _, hh, _⟩
  · exact .inl (List.eq_nil_of_length_eq_zero (by rw [gvs_len]; omega))
  · injection hv with hA
    subst hA
    refine .inr ⟨g, 0, rfl, (Array.getElem?_eq_some_iff.1 hh).1, fun i hi => ?_⟩
    have := h.cells (g := g) rfl i _ (List.getElem?_eq_getElem hi)
    rw [add_none] at this
    rw [this, List.getElem?_eq_getElem hi]
/-- The first thing that is wrong with the first d. -/
def fe (L : List G) : Nat → Int
  | 0 => 0
  | d + 1 => if fe L d ≠ 0 then fe L d else errAt L d
def wAt (L : List G) (n d : Nat) : Int := if n < 1 ∨ 256 < n then 7 else fe L d
theorem fe_stay {L : List G} {d : Nat} (h : fe L d ≠ 0) : ∀ {e : Nat}, d ≤ e → fe L e = fe L d
  | 0, he => by obtain rfl : d = 0 := by omega
                rfl
  | e + 1, he => by
    by_cases hd : d = e + 1
    · subst hd; rfl
    · have ih := fe_stay h (e := e) (by omega)
      rw [fe, ih, if_pos h]
theorem wAt_stay {L : List G} {n d : Nat} (h : wAt L n d ≠ 0) {e : Nat} (he : d ≤ e) : wAt L n e = wAt L n d := by
  unfold wAt at h ⊢
  split
  · rfl
  · next hn =>
    rw [if_neg hn] at h
    exact fe_stay h he
theorem wAt_next {L : List G} {n d : Nat} (h : wAt L n d = 0) : wAt L n (d + 1) = errAt L d := by
  unfold wAt at h ⊢
  split
  · next hn => rw [if_pos hn] at h; omega
  · next hn =>
    rw [if_neg hn] at h
    rw [fe, if_neg (by simpa using h)]
theorem fe_zero {L : List G} : ∀ {d : Nat}, fe L d = 0 → ∀ i, i < d → errAt L i = 0
  | 0, _, i, hi => by omega
  | d + 1, h, i, hi => by
    rw [fe] at h
    split at h
    · next h1 => exact absurd h h1
    · next h1 =>
      by_cases hd : i = d
      · subst hd; exact h
      · exact fe_zero (L := L) (d := d) (by simpa using h1) i (by omega)
theorem fe_none {L : List G} : ∀ {d : Nat}, (∀ i, i < d → errAt L i = 0) → fe L d = 0
  | 0, _ => rfl
  | d + 1, h => by
    have h1 := fe_none (L := L) (d := d) fun i hi => h i (by omega)
    rw [fe, if_neg (by simpa using h1)]
    exact h d (by omega)
theorem fe_first {L : List G} {i d : Nat} (h0 : ∀ j, j < i → errAt L j = 0) (h1 : errAt L i ≠ 0) (hd : i < d) : fe L d = errAt L i := by
  have h2 : fe L (i + 1) = errAt L i := by rw [fe, fe_none h0, if_neg (by simp)]
  rw [fe_stay (d := i + 1) (by rw [h2]; exact h1) hd, h2]
theorem wAt_zero {L : List G} {n : Nat} (h : wAt L n n = 0) : (1 ≤ n ∧ n ≤ 256) ∧ ∀ i, i < n → errAt L i = 0 := by
  unfold wAt at h
  split at h
  · omega
  · next hn => exact ⟨by omega, fe_zero h⟩
theorem new_bad {w w' : World} {L : List G} {n : Nat} {k : Int} {r : Ending} (hn : L.length = n) (hk : wAt L n n = k) (h0 : k ≠ 0) (h : NewAns w w' L r) : r = .returned (.tuple #[.pointer none, .int .i64 k]) := by
  subst hn
  rcases h with ⟨hb, h⟩ | ⟨hb, i, hi, h1, h2, h⟩ | ⟨hb, h1, _, h⟩ | ⟨hb, h1, _, _⟩
  · rw [h, ← hk, wAt, if_pos (by omega)]
  · rw [h, ← hk, wAt, if_neg (by omega), fe_first h1 h2 hi]
  · exact absurd (by rw [← hk, wAt, if_neg (by omega), fe_none h1]) h0
  · exact absurd (by rw [← hk, wAt, if_neg (by omega), fe_none h1]) h0
theorem new_far {w w' : World} {L : List G} {n : Nat} {r : Ending} (hn : L.length = n) (hk : wAt L n n = 0) (hp : 2 ^ 20 < posOf (nats' L)) (h : NewAns w w' L r) : r = .returned (.tuple #[.pointer none, .int .i64 13]) := by
  subst hn
  obtain ⟨h1, h2⟩ := wAt_zero hk
  rcases h with ⟨hb, _⟩ | ⟨_, i, hi, _, h3, _⟩ | ⟨_, _, _, h⟩ | ⟨_, _, h3, _⟩
  · omega
  · exact absurd (h2 i hi) h3
  · exact h
  · omega
theorem new_good {w w' : World} {L : List G} {n : Nat} {r : Ending} (hn : L.length = n) (hk : wAt L n n = 0) (hp : posOf (nats' L) ≤ 2 ^ 20) (h : NewAns w w' L r) : ∃ p, r = .returned (.tuple #[.pointer (some ⟨p, 0, none⟩), .int .i64 0]) ∧ IsCode w.heap.size w' p (wordsOf (nats' L)) := by
  subst hn
  obtain ⟨h1, h2⟩ := wAt_zero hk
  rcases h with ⟨hb, _⟩ | ⟨_, i, hi, _, h3, _⟩ | ⟨_, _, h3, _⟩ | ⟨_, _, _, h⟩
  · omega
  · exact absurd (h2 i hi) h3
  · omega
  · exact h
/-- A row's value out of what tells it. -/
structure Sl where
  A : Option Addr
  n : Nat
  c : Nat
def mkS (t : Sl) : Value := .slice t.A t.n t.c
theorem words_shape {w : World} {bm : Nat} {T : List (Int × Nat × Nat)} {M : List (Lit × Value)} (h : Fa (Wrd w bm) T M) : ∀ p ∈ M, ∃ c, p.2 = mkS c := by
  intro p hp
  obtain ⟨t, _, _, A, c, e, _⟩ := h.mem p hp
  exact ⟨⟨A, t.2.1, c⟩, e⟩
/-- One word of the map. -/
theorem word_of {w : World} {bm : Nat} {L : List (Int × Nat)} {M : List (Lit × Value)} (h : Fa (Wrd w bm) (wordsOf L) M) {x : Int} {c : Sl} (hm : (Lit.int .i64 x, mkS c) ∈ M) :
    ∃ A z v k, c = ⟨A, z, k⟩ ∧ z ≤ k ∧ (x, z, v) ∈ wordsOf L ∧ Lies w A (Bq.ib (tb v z)) := by
  obtain ⟨t, ht, e1, A, k, e2, h3, h4, h5⟩ := h.mem _ hm
  obtain ⟨x', z, v⟩ := t
  simp only at e1 e2 h3 h4
  injection e1 with _ e1
  subst e1
  obtain ⟨c1, c2, c3⟩ := c
  simp only [mkS] at e2
  injection e2 with e2 e3 e4
  subst e2 e3 e4
  exact ⟨_, _, v, _, rfl, h3, ht, h4⟩
theorem lies_far {S : Nat → Prop} {w w1 : World} {A : Option Addr} {xs : List Int} (h : Lies w A xs) (k : Keeps S w w1) (hn : ∀ b o, A = some ⟨b, o, none⟩ → xs ≠ [] → ¬ S b) : Lies w1 A xs := by
  by_cases hx : xs = []
  · exact .inl hx
  · exact h.keeps k (fun b o hb => hn b o hb hx)
theorem find_nd : ∀ {W : List (Int × Nat × Nat)}, (W.map (·.1)).Nodup → ∀ t ∈ W, W.find? (fun s => s.1 == t.1) = some t
  | [], _, t, h => by cases h
  | a :: W, hn, t, h => by
    simp only [List.map_cons, List.nodup_cons] at hn
    rw [List.find?_cons]
    rcases List.mem_cons.1 h with rfl | h1
    · simp
    · have hne : (a.1 == t.1) = false := by
        simp only [beq_eq_false_iff_ne, ne_eq]
        exact fun e => hn.1 (e ▸ List.mem_map_of_mem h1)
      rw [hne]
      exact find_nd hn.2 t h1
theorem found_is {L : List (Int × Nat)} (h : ∀ p ∈ L, p.2 ≤ 20) (hd : (L.map (·.1)).Nodup) {x : Int} {z v : Nat} (hm : (x, z, v) ∈ wordsOf L) : found (wordsOf L) x = some (z, v) := by
  have h2 : (wordsOf L).map (·.1) = (line L 21).map (·.1) := by
    conv => rhs; rw [← asg_keys 0 (line L 21)]
    rw [List.map_map]
    rfl
  have hn : ((wordsOf L).map (·.1)).Nodup := by rw [h2]; exact ((line_perm h).map _).nodup_iff.2 hd
  have := find_nd hn _ hm
  simp only at this
  rw [found, this]
  rfl
set_option maxHeartbeats 40000000 in
set_option maxRecDepth 100000 in
theorem walk (a0 : Option Addr) (len0 cap0 : Nat) (z0 : List (Int × Int)) (a1 : Option Addr) (len1 cap1 : Nat) (z1 : List Int) (w : World) (w0 : IsPairs .i64 .i64 w a0 len0 cap0 z0) (w1 : IsRow .u8 w a1 len1 cap1 z1) :
    Calls Try.prog 4 #[.slice a0 len0 cap0, .slice a1 len1 cap1] w fun e w' => e = .returned (.bool true) ∧ Below w.heap.size w w' := by
  obtain ⟨hr0, hl0⟩ := row_pairs w0
  have HR0 := Lib.hid hr0
  have HL0 := Lib.hid hl0
  have HO := Lib.hid (row_at w1)
  obtain ⟨L0, hL0⟩ : ∃ L0, z0.take len0 = L0 := ⟨_, rfl⟩
  rw [hL0] at HR0 HL0
  clear w0 w1 hr0 hl0 hL0
  go_enter Try.func4, Try.ntmps4
  go_wp2_with fail
  refine (awake_ _).mono ?_
  rintro e w1 ⟨rfl, hk1⟩
  have HK1 := Lib.hid hk1
  clear hk1
  by_cases hbig : 300 < len0
  · have hbi : (300 : Int) < (len0 : Int) := by omega
    have hbd : decide ((300 : Int) < (len0 : Int)) = true := by simpa using hbi
    clear hbig
    go_wp2
    go_ret
    exact ⟨rfl, HK1.out.below (Nat.le_refl _) (fun _ h => h.elim)⟩
  have hbi : ¬ ((300 : Int) < (len0 : Int)) := by omega
  have hbd : decide ((300 : Int) < (len0 : Int)) = false := by simpa using hbi
  by_cases hbig2 : 60 < len1
  · have hbi2 : (60 : Int) < (len1 : Int) := by omega
    have hbd2 : decide ((60 : Int) < (len1 : Int)) = true := by simpa using hbi2
    clear hbig2 hbig
    go_wp2
    go_ret
    exact ⟨rfl, HK1.out.below (Nat.le_refl _) (fun _ h => h.elim)⟩
  have hbi2 : ¬ ((60 : Int) < (len1 : Int)) := by omega
  have hbd2 : decide ((60 : Int) < (len1 : Int)) = false := by simpa using hbi2
  have hle : len0 ≤ 300 := by omega
  have hle1 : len1 ≤ 60 := by omega
  clear hbig hbig2
  obtain ⟨i0, hi0, hz0, hz1, hz2⟩ := info_parts ent_info'
  go_wp2_with fail
  go_loopw [5, 33] (fun nv iv' wr => ∃ (d : Nat) (A : Option Addr) (c : Nat), nv = .slice A d c ∧ iv' = .int .i64 (d : Int) ∧ d ≤ len1 ∧ Hid (wr.ownsRow w1.heap.size 34 2 (.slice A d c) d (gvs (nearL z1 d)) ∧ Keeps (fun _ => False) w1 wr)) (fun _ iv' _ => len1 - (intOf iv').toNat)
  case atStart => exact ⟨0, none, 0, rfl, rfl, by omega, Lib.hid ⟨World.ownsRow_nil _ _ _ _, Keeps.refl _ _⟩⟩
  case round =>
    obtain ⟨d, A, c, rfl, rfl, hd, HH⟩ := hrel
    have HOW := Lib.hid HH.out.1
    have HK := Lib.hid HH.out.2
    clear HH
    by_cases hlt : d < len1
    · obtain ⟨ob, oo, x, rfl, hob, hco, hzx, hwk⟩ := HO.out.2 d hlt
      have hco2 : wr.cell? ⟨ob, oo + d, none⟩ = some (.int .u8 x) := ((HK1.out.trans HK.out).cell (p := ⟨ob, oo + d, none⟩) hob id).trans hco
      have hxb : 0 ≤ x ∧ x ≤ 255 := by
        have hm : IntKind.u8.min = 0 ∧ IntKind.u8.max = 255 := by decide
        simp only [Lit.wf, hm.1, hm.2, Bool.and_eq_true, decide_eq_true_eq] at hwk
        omega
      have hzg : z1.getD d 0 = x := by rw [List.getD, hzx]; rfl
      have hrm : Int.tmod x 7 = x % 7 := Int.tmod_eq_emod_of_nonneg (by omega)
      obtain ⟨q, hq⟩ : ∃ q, x % 7 = q := ⟨_, rfl⟩
      rw [hq] at hrm
      have hqb : 0 ≤ q ∧ q < 7 := by omega
      have hw0 : IntKind.u8.wrap q = q := IntWalk.u8_in _ (by omega)
      have hw1 : IntKind.i64.wrap q = q := IntWalk.i64_in _ (by omega)
      have hw2 : IntKind.i64.wrap (1 + q) = 1 + q := IntWalk.i64_in _ (by omega)
      have hw3 : IntKind.i64.wrap (3 * (d : Int)) = 3 * (d : Int) := IntWalk.i64_in _ (by omega)
      have HNX : Hid (gvs (nearL z1 (d + 1)) = gvs (nearL z1 d) ++ [.int .i64 (3 * (d : Int)), .int .i64 (1 + q)]) := by show _ = _; rw [nearL_next, gvs_app, hzg, hq]; rfl
      have HOA := Lib.hid (own_keeps HOW.out ((Keeps.refl (fun _ => False) _).alloc (.cells #[.int .i64 (3 * (d : Int)), .int .i64 (1 + q)] 34)) (fun _ _ => id))
      have HKA := Lib.hid (HK.out.alloc (.cells #[.int .i64 (3 * (d : Int)), .int .i64 (1 + q)] 34))
      have HNW := Lib.hid (ecell_two wr (.int .i64 (3 * (d : Int))) (.int .i64 (1 + q)) 34)
      have hd0 : (0 : Int) ≤ (d : Int) := by omega
      have hd1 : (d : Int) < (len1 : Int) := by omega
      clear hzg hq hco hzx hwk
      go_wp2_with (
        at_builtin
        refine wpList_append_own_at _ rfl (.tmp 38) (.tmp 46) _ rfl w1.heap.size 34 i0 _ 2 16 Try.underlying26 hi0 hz0 hz1 hz2 rfl (by omega) (.slice A d c) d (gvs (nearL z1 d)) rfl
          HOA.out ⟨wr.heap.size, 0, none⟩ 1 1 [.int .i64 (3 * (d : Int)), .int .i64 (1 + q)] rfl rfl HNW.out (by simp [Value.oneCell']) (by simp only [maxLen]; omega) (by omega) HKA.out.size ?_
        intro v1 w5 hown1 hg1 hnil1 hat1
        rw [← HNX.out] at hown1
        have HK5 := Lib.hid (HKA.out.grown hg1 (fun b hb => .inr (HOA.out.lt b hb).1))
        obtain ⟨A1, c1, rfl, _⟩ := own_form hown1
        have HO5 := Lib.hid hown1
        clear hown1 hg1 hnil1 hat1)
      exact ⟨⟨d + 1, A1, c1, rfl, by go_num, by omega, Lib.hid ⟨HO5.out, HK5.out⟩⟩, by simp [intOf]; omega⟩
    · obtain rfl : d = len1 := by omega
      have HR1 := Lib.hid (own_row HOW.out (nearL_len z1 d))
      obtain ⟨L1, hL1⟩ : ∃ L1, nearL z1 d = L1 := ⟨_, rfl⟩
      have HL1 : Hid (L1.length = d) := by show _ = _; rw [← hL1]; exact nearL_len z1 d
      rw [hL1] at HR1
      clear hL1 HOW hlt
      go_upto_region 12 with fail
      obtain ⟨Sb, hSb⟩ : ∃ Sb, wr.heap.size = Sb := ⟨_, rfl⟩
      have hbS := Blk.new wr 26 #[.slice a0 len0 cap0, .slice A d c]
      have hkW := (HK1.out.trans HK.out).alloc (.cells #[.slice a0 len0 cap0, .slice A d c] 26)
      have hr1 := HR1.out.keeps ((Keeps.refl (fun _ => False) wr).alloc (.cells #[.slice a0 len0 cap0, .slice A d c] 26)) (fun _ _ _ => id)
      generalize wr.alloc (.cells #[.slice a0 len0 cap0, .slice A d c] 26) = W at hbS hkW hr1 ⊢
      rw [hSb] at hbS ⊢
      have HBS := Lib.hid hbS
      have HKW := Lib.hid hkW
      have HR1W := Lib.hid hr1
      have HR0W := Lib.hid (HR0.out.keeps hkW (fun _ _ _ => id))
      clear hSb hbS hkW hr1 HR1 HR0 HK hi0 hz0 hz1 hz2
      go_loopw [53] (fun iv' wx => ∃ j : Nat, iv' = .int .i64 (j : Int) ∧ j ≤ 2 ∧ Hid (Keeps (fun _ => False) W wx)) (fun iv' _ => 2 - (intOf iv').toNat)
      case atStart => exact ⟨0, rfl, by omega, Lib.hid (Keeps.refl _ _)⟩
      case round =>
        obtain ⟨j, rfl, hj, HKR⟩ := hrel
        by_cases hlt : j < 2
        · obtain ⟨X, n, cx, L, hcx, hrw, hLn, hn3⟩ : ∃ X n cx L, wr.cell? ⟨Sb, j, none⟩ = some (.slice X n cx) ∧ RowAt wr X (gvs L) ∧ L.length = n ∧ n ≤ 300 := by
            have hc := (HBS.out.keeps HKR.out id).cell j
            obtain rfl | rfl : j = 0 ∨ j = 1 := by omega
            · exact ⟨a0, len0, cap0, L0, hc, HR0W.out.keeps HKR.out (fun _ _ _ => id), HL0.out, hle⟩
            · exact ⟨A, d, c, L1, hc, HR1W.out.keeps HKR.out (fun _ _ _ => id), HL1.out, by omega⟩
          have HRW := Lib.hid hrw
          have HLN := Lib.hid hLn
          have hj0 : (0 : Int) ≤ (j : Int) := by omega
          have hj1 : (j : Int) < 2 := by omega
          clear hrw hLn
          go_upto_region 15 with fail
          obtain ⟨Bn, hBn⟩ : ∃ Bn, decide (n < 1 ∨ 256 < n) = Bn := ⟨_, rfl⟩
          go_cut [64] from 57 to 64 (fun bv wx => bv = .bool Bn ∧ wx = wr)
          case first =>
            by_cases h1 : n < 1
            · have hB : Bn = true := by rw [← hBn]; exact decide_eq_true (.inl h1)
              subst hB
              have hd1 : decide ((n : Int) < 1) = true := by rw [decide_eq_true_iff]; omega
              go_wp2_with fail
              go_meet
              case rel => exact ⟨rfl, rfl⟩
            · have hd1 : decide ((n : Int) < 1) = false := by rw [decide_eq_false_iff_not]; omega
              have hni : ¬ ((n : Int) < 1) := by omega
              by_cases h2 : 256 < n
              · have hB : Bn = true := by rw [← hBn]; exact decide_eq_true (.inr h2)
                subst hB
                have hd2 : decide ((256 : Int) < (n : Int)) = true := by rw [decide_eq_true_iff]; omega
                go_wp2_with fail
                go_meet
                case rel => exact ⟨rfl, rfl⟩
              · have hB : Bn = false := by rw [← hBn]; exact decide_eq_false (by omega)
                subst hB
                have hd2 : decide ((256 : Int) < (n : Int)) = false := by rw [decide_eq_false_iff_not]; omega
                go_wp2_with fail
                go_meet
                case rel => exact ⟨rfl, rfl⟩
          case rest =>
            obtain ⟨rfl, rfl⟩ := hcut
            have HW0 : Hid (wAt L n 0 = if Bn then 7 else 0) := by show _ = _; rw [wAt, ← hBn]; simp [fe]
            clear hBn
            obtain ⟨k0, hk0⟩ : ∃ k0, wAt L n 0 = k0 := ⟨_, rfl⟩
            rw [hk0] at HW0
            go_upto_if 64 with fail
            go_cut [10] from 64 to 64 (fun wv wx => wv = .int .i64 k0 ∧ wx = wc)
            case first =>
              cases Bn with
              | true =>
                have hk7 : k0 = 7 := HW0.out
                subst hk7
                go_wp2_with fail
                go_meet
                case rel => exact ⟨rfl, rfl⟩
              | false =>
                have hk7 : k0 = 0 := HW0.out
                subst hk7
                go_wp2_with fail
                go_meet
                case rel => exact ⟨rfl, rfl⟩
            case rest =>
              obtain ⟨rfl, rfl⟩ := hcut
              have HK0 := Lib.hid hk0
              obtain ⟨k1, hk1⟩ : ∃ k1, wAt L n n = k1 := ⟨_, rfl⟩
              have HK1n := Lib.hid hk1
              clear hk0 hk1 HW0
              go_upto_block 4 with fail
              go_cut [10, 11, 12] from 67 to 116 (fun wv _ _ wx => wv = .int .i64 k1 ∧ Hid (Keeps (fun _ => False) wc wx))
              case first =>
                go_wp2_with fail
                go_loopw [10, 67] (fun wv iv' wx => ∃ e : Nat, wv = .int .i64 (wAt L n e) ∧ iv' = .int .i64 (e : Int) ∧ e ≤ n ∧ Hid (Keeps (fun _ => False) wc wx)) (fun _ iv' _ => n - (intOf iv').toNat)
                case atStart => exact ⟨0, by rw [HK0.out], rfl, by omega, Lib.hid (Keeps.refl _ _)⟩
                case round =>
                  obtain ⟨e, rfl, rfl, he, HKE⟩ := hrel
                  obtain ⟨k, hk⟩ : ∃ k, wAt L n e = k := ⟨_, rfl⟩
                  rw [hk]
                  by_cases hen : e < n
                  · have hel : e < L.length := by rw [HLN.out]; exact hen
                    obtain ⟨xb, xo, rfl, hxb, h0, h1⟩ := g_item (w := wr) (l := L) (HRW.out.keeps HKE.out (fun _ _ _ => id)) hel
                    have HPrev : Hid (0 < e → wr.cell? ⟨xb, xo + (e - 1) * 2, none⟩ = some (.int .i64 (L.getD (e - 1) (0, 0)).1)) := by
                      refine Lib.hid fun _ => ?_
                      obtain ⟨b2, o2, hbo, _, h02, _⟩ := g_item (w := wr) (l := L) (HRW.out.keeps HKE.out (fun _ _ _ => id)) (j := e - 1) (by omega)
                      injection hbo with hbo
                      injection hbo with e1 e2
                      rw [e1, e2]
                      exact h02
                    obtain ⟨pv, hpv⟩ : ∃ pv, (L.getD (e - 1) (0, 0)).1 = pv := ⟨_, rfl⟩
                    have HER : Hid (errAt L e = entErr n e (L.getD e (0, 0)) pv) := by show _ = _; rw [errAt, HLN.out, hpv]
                    rw [hpv] at HPrev
                    obtain ⟨⟨x1, x2⟩, hxz⟩ : ∃ q, q = L.getD e (0, 0) := ⟨_, rfl⟩
                    rw [← hxz] at h0 h1 HER
                    simp only at h0 h1
                    have he0 : (0 : Int) ≤ (e : Int) := by omega
                    have he1 : (e : Int) < (n : Int) := by omega
                    clear hxz hpv hel
                    by_cases hk0 : k = 0
                    · subst hk0
                      have HNX : Hid (wAt L n (e + 1) = entErr n e (x1, x2) pv) := by show _ = _; rw [wAt_next hk, HER.out]
                      clear hk
                      go_upto_region 20 with fail
                      obtain ⟨Y, hY⟩ : ∃ Y, wr.heap.size = Y := ⟨_, rfl⟩
                      have hbY := Blk.new wr 34 #[.int .i64 x1, .int .i64 x2]
                      have hkY : Keeps (fun _ => False) wr (wr.alloc (.cells #[.int .i64 x1, .int .i64 x2] 34)) := (Keeps.refl _ _).alloc _
                      generalize wr.alloc (.cells #[.int .i64 x1, .int .i64 x2] 34) = W5 at hbY hkY ⊢
                      rw [hY] at hbY ⊢
                      have hY0 : W5.cell? ⟨Y, 0, none⟩ = some (.int .i64 x1) := hbY.cell 0
                      have hY1 : W5.cell? ⟨Y, 1, none⟩ = some (.int .i64 x2) := hbY.cell 1
                      have HPrev5 : Hid (0 < e → W5.cell? ⟨xb, xo + (e - 1) * 2, none⟩ = some (.int .i64 pv)) := fun h => (hkY.cell (p := ⟨xb, xo + (e - 1) * 2, none⟩) hxb id).trans (HPrev.out h)
                      have HKY := Lib.hid (HKE.out.trans hkY)
                      clear hY hbY hkY h0 h1 HPrev
                      go_upto_region 21 with fail
                      obtain ⟨T1, hT1⟩ : ∃ T1, decide (¬ (-2147483647 ≤ x1 ∧ x1 ≤ 2147483647) ∨ x2 < 0 ∨ 20 < x2) = T1 := ⟨_, rfl⟩
                      go_cut [74] from 75 to 92 (fun bv wx => bv = .bool T1 ∧ wx = W5)
                      case first =>
                        by_cases c1 : x1 < -2147483647
                        · have hB : T1 = true := by rw [← hT1]; exact decide_eq_true (by omega)
                          subst hB
                          have d1 : decide (x1 < -2147483647) = true := by simpa using c1
                          go_wp2_with fail
                          go_meet
                          case rel => exact ⟨rfl, rfl⟩
                        · have d1 : decide (x1 < -2147483647) = false := by simpa using c1
                          by_cases c2 : 2147483647 < x1
                          · have hB : T1 = true := by rw [← hT1]; exact decide_eq_true (by omega)
                            subst hB
                            have d2 : decide (2147483647 < x1) = true := by simpa using c2
                            go_wp2_with fail
                            go_meet
                            case rel => exact ⟨rfl, rfl⟩
                          · have d2 : decide (2147483647 < x1) = false := by simpa using c2
                            by_cases c3 : x2 < 0
                            · have hB : T1 = true := by rw [← hT1]; exact decide_eq_true (by omega)
                              subst hB
                              have d3 : decide (x2 < 0) = true := by simpa using c3
                              go_wp2_with fail
                              go_meet
                              case rel => exact ⟨rfl, rfl⟩
                            · have d3 : decide (x2 < 0) = false := by simpa using c3
                              by_cases c4 : 20 < x2
                              · have hB : T1 = true := by rw [← hT1]; exact decide_eq_true (by omega)
                                subst hB
                                have d4 : decide (20 < x2) = true := by simpa using c4
                                go_wp2_with fail
                                go_meet
                                case rel => exact ⟨rfl, rfl⟩
                              · have hB : T1 = false := by rw [← hT1]; exact decide_eq_false (by omega)
                                subst hB
                                have d4 : decide (20 < x2) = false := by simpa using c4
                                go_wp2_with fail
                                go_meet
                                case rel => exact ⟨rfl, rfl⟩
                      case rest =>
                        obtain ⟨rfl, rfl⟩ := hcut
                        cases T1 with
                        | true =>
                          have HT : Hid (entErr n e (x1, x2) pv = 2) := by show _ = _; rw [entErr, if_pos (of_decide_eq_true hT1)]
                          clear hT1
                          go_wp2_with fail
                          exact ⟨⟨e + 1, by rw [HNX.out, HT.out], by go_num, by omega, HKY⟩, by simp [intOf]; omega⟩
                        | false =>
                          have HT : Hid (entErr n e (x1, x2) pv = if x2 = 0 ∧ 1 < n then 13 else if 0 < e ∧ x1 ≤ pv then 21 else 0) := by show _ = _; rw [entErr, if_neg (of_decide_eq_false hT1)]
                          clear hT1
                          go_upto_region 23 with fail
                          obtain ⟨T2, hT2⟩ : ∃ T2, decide (x2 = 0 ∧ 1 < n) = T2 := ⟨_, rfl⟩
                          go_cut [93] from 94 to 101 (fun bv wx => bv = .bool T2 ∧ wx = wc)
                          case first =>
                            by_cases c1 : x2 = 0
                            · subst c1
                              by_cases c2 : 1 < n
                              · have hB : T2 = true := by rw [← hT2]; exact decide_eq_true ⟨rfl, c2⟩
                                subst hB
                                have d2 : decide ((1 : Int) < (n : Int)) = true := by rw [decide_eq_true_iff]; omega
                                go_wp2_with fail
                                go_meet
                                case rel => exact ⟨rfl, rfl⟩
                              · have hB : T2 = false := by rw [← hT2]; exact decide_eq_false fun h => c2 h.2
                                subst hB
                                have d2 : decide ((1 : Int) < (n : Int)) = false := by rw [decide_eq_false_iff_not]; omega
                                go_wp2_with fail
                                go_meet
                                case rel => exact ⟨rfl, rfl⟩
                            · have hB : T2 = false := by rw [← hT2]; exact decide_eq_false fun h => c1 h.1
                              subst hB
                              have d1 : (x2 == 0) = false := by simpa using c1
                              go_wp2_with fail
                              go_meet
                              case rel => exact ⟨rfl, rfl⟩
                          case rest =>
                            obtain ⟨rfl, rfl⟩ := hcut
                            cases T2 with
                            | true =>
                              have HT2 : Hid (entErr n e (x1, x2) pv = 13) := by show _ = _; rw [HT.out, if_pos (of_decide_eq_true hT2)]
                              clear hT2
                              go_wp2_with fail
                              exact ⟨⟨e + 1, by rw [HNX.out, HT2.out], by go_num, by omega, HKY⟩, by simp [intOf]; omega⟩
                            | false =>
                              have HT2 : Hid (entErr n e (x1, x2) pv = if 0 < e ∧ x1 ≤ pv then 21 else 0) := by show _ = _; rw [HT.out, if_neg (of_decide_eq_false hT2)]
                              clear hT2
                              go_upto_region 25 with fail
                              obtain ⟨T3, hT3⟩ : ∃ T3, decide (0 < e ∧ x1 ≤ pv) = T3 := ⟨_, rfl⟩
                              obtain ⟨W6, hW6⟩ : ∃ W6, W6 = wc := ⟨_, rfl⟩
                              rw [← hW6] at HKY HPrev5 hY0 hY1 ⊢
                              clear hW6
                              go_cut [102] from 103 to 115 (fun bv wx => bv = .bool T3 ∧ Hid (Keeps (fun _ => False) W6 wx))
                              case first =>
                                rcases Nat.eq_zero_or_pos e with rfl | hep
                                · have hB : T3 = false := by rw [← hT3]; exact decide_eq_false fun h => absurd h.1 (by omega)
                                  subst hB
                                  have d5 : decide ((0 : Int) < ((0 : Nat) : Int)) = false := by simp
                                  go_big_region
                                  all_goals go_wp2_with fail
                                  all_goals go_meet
                                  all_goals exact ⟨rfl, Lib.hid ((Keeps.refl _ _).drewN _)⟩
                                · obtain ⟨k, rfl⟩ : ∃ k, e = k + 1 := ⟨e - 1, by omega⟩
                                  have hcp := HPrev5.out hep
                                  rw [Nat.add_sub_cancel] at hcp
                                  have d5 : decide ((0 : Int) < (k : Int) + 1) = true := by rw [decide_eq_true_iff]; omega
                                  have hsub : (k : Int) + 1 - 1 = (k : Int) := by omega
                                  have hwk : IntKind.i64.wrap (k : Int) = (k : Int) := by rw [IntKind.wrap_i64]; omega
                                  have hkn : (k : Int) < (n : Int) := by omega
                                  by_cases c6 : x1 ≤ pv
                                  · have hB : T3 = true := by rw [← hT3]; exact decide_eq_true ⟨hep, c6⟩
                                    subst hB
                                    have d6 : decide (x1 ≤ pv) = true := by simpa using c6
                                    go_big_region
                                    all_goals go_wp2_with fail
                                    all_goals go_meet
                                    all_goals exact ⟨rfl, Lib.hid ((Keeps.refl _ _).drewN _)⟩
                                  · have hB : T3 = false := by rw [← hT3]; exact decide_eq_false fun h => c6 h.2
                                    subst hB
                                    have d6 : decide (x1 ≤ pv) = false := by simpa using c6
                                    go_big_region
                                    all_goals go_wp2_with fail
                                    all_goals go_meet
                                    all_goals exact ⟨rfl, Lib.hid ((Keeps.refl _ _).drewN _)⟩
                              case rest =>
                                obtain ⟨rfl, HKC⟩ := hcut
                                have HKZ := Lib.hid (HKY.out.trans HKC.out)
                                cases T3 with
                                | true =>
                                  have HT3 : Hid (entErr n e (x1, x2) pv = 21) := by show _ = _; rw [HT2.out, if_pos (of_decide_eq_true hT3)]
                                  clear hT3
                                  go_wp2_with fail
                                  exact ⟨⟨e + 1, by rw [HNX.out, HT3.out], by go_num, by omega, HKZ⟩, by simp [intOf]; omega⟩
                                | false =>
                                  have HT3 : Hid (entErr n e (x1, x2) pv = 0) := by show _ = _; rw [HT2.out, if_neg (of_decide_eq_false hT3)]
                                  clear hT3
                                  go_wp2_with fail
                                  exact ⟨⟨e + 1, by rw [HNX.out, HT3.out], by go_num, by omega, HKZ⟩, by simp [intOf]; omega⟩
                    · have hkb : (k != 0) = true := by simpa using hk0
                      have HKEnd : Hid (k = k1) := by show _ = _; rw [← hk, ← HK1n.out, wAt_stay (by rw [hk]; exact hk0) (Nat.le_of_lt hen)]
                      have HKA := Lib.hid (HKE.out.alloc (.cells #[.int .i64 x1, .int .i64 x2] 34))
                      clear hk
                      go_wp2_with fail
                      go_meet
                      case rel => exact ⟨by rw [HKEnd.out], HKA⟩
                  · obtain rfl : e = n := by omega
                    have HKEnd : Hid (k = k1) := by show _ = _; rw [← hk, ← HK1n.out]
                    clear hk
                    go_wp2_with fail
                    go_meet
                    case rel => exact ⟨by rw [HKEnd.out], HKE⟩
              case rest =>
                obtain ⟨rfl, HKI⟩ := hcut
                have HRC := Lib.hid (HRW.out.keeps HKI.out (fun _ _ _ => id))
                have HKC := Lib.hid (HKR.out.trans HKI.out)
                clear HRW HKI HKR HK0 hcx
                obtain ⟨Wc, hWc⟩ : ∃ Wc, Wc = wc := ⟨_, rfl⟩
                rw [← hWc] at HRC HKC ⊢
                clear hWc
                have qT : ∀ (w : World) (r : Option Nat), (binOp .eql 40 (.map r) (.map none)).run Try.prog w = .ok (.bool r.isNone) w := fun w r => run_eql_map_nil w _ _ _ r Try.underlying40
                have qG : ∀ (x y : Operand) (r : Option Nat), eqGuard .eql 40 x y (.map r) (.map none) = pure () := fun _ _ _ => rfl
                have HNEW := Lib.hid (fun w (h : RowAt w X (gvs L)) => new_ X n cx L w h HLN.out (by omega))
                by_cases hk0 : k1 = 0
                · subst hk0
                  have HRT := Lib.hid (right_of (L := L) (by rw [HLN.out]; exact (wAt_zero HK1n.out).2))
                  have HEN : Hid (EntsAt Wc X (nats' L)) := by
                    show RowAt _ _ _
                    rw [← gvs_ints, HRT.out.ints]
                    exact HRC.out
                  have HNL : Hid ((nats' L).length = n) := by show _ = _; rw [← HLN.out]; simp [nats']
                  have HWO := Lib.hid (words_ X n cx (nats' L) Wc HEN.out HNL.out (by omega) HRT.out.sizes (fun p hp => wf_of (by have := HRT.out.nums p hp; omega)) HRT.out.keys)
                  by_cases hp : posOf (nats' L) ≤ 2 ^ 20
                  · have HW2 : Hid (Calls Try.prog 13 #[.slice X n cx] Wc fun r w' => Keeps (fun _ => False) Wc w' ∧ ∃ bm, r = .returned (.map (some bm)) ∧ Wc.heap.size ≤ bm ∧ ∃ M, IsM Try.prog 3 w' bm M ∧ Fa (Wrd w' bm) (wordsOf (nats' L)) M) := by
                      refine Lib.hid (HWO.out.mono ?_)
                      rintro r w' ⟨h1, ⟨h2, _⟩ | ⟨_, h2⟩⟩
                      · omega
                      · exact ⟨h1, h2⟩
                    have HPP := Lib.hid hp
                    clear HWO hp
                    go_upto_region 31 with (
                      go_at_call 13
                      refine HW2.out.mono ?_
                      rintro e w5 ⟨hk5, bm, rfl, hbm, M, hM, hF⟩
                      have HK5 := Lib.hid (HKC.out.trans hk5)
                      have HR5 := Lib.hid (HRC.out.keeps hk5 (fun _ _ _ => id))
                      have HM5 := Lib.hid hM
                      have HF5 := Lib.hid hF
                      clear hk5 hM hF hbm)
                    obtain ⟨bb, hbb⟩ : ∃ bb, w5.heap.size = bb := ⟨_, rfl⟩
                    go_upto_region 36 with (
                      go_at_call 11
                      refine (HNEW.out _ HR5.out).mono ?_
                      rintro e w6 ⟨hna, hk6⟩
                      obtain ⟨pc, rfl, hcode⟩ := new_good HLN.out HK1n.out HPP.out hna
                      rw [hbb] at hcode
                      have HC6 := Lib.hid hcode
                      have HK6 := Lib.hid (HK5.out.trans hk6)
                      have HK56 := Lib.hid hk6
                      have HM6 := Lib.hid (HM5.out.keeps hk6 id)
                      clear hna hk6 hcode)
                    clear hbb HR5 HM5 HNEW HW2 HEN
                    obtain ⟨Ls, hLs⟩ : ∃ Ls, nats' L = Ls := ⟨_, rfl⟩
                    have HLz : Hid (∀ p ∈ Ls, p.2 ≤ 20) := by rw [← hLs]; exact HRT.out.sizes
                    have HLk : Hid ((Ls.map (·.1)).Nodup) := by show List.Nodup _; rw [← hLs]; exact HRT.out.keys
                    rw [hLs] at HC6 HF5 HPP
                    clear hLs HRT HNL HRC HKC HK1n HLN
                    go_wp2_with (
                      at_range
                      refine wpList_range_m _ rfl _ _ rfl 3 38 int_key Try.underlying40 bm M rfl HM6.out ?_
                      intro w7 hrg7 hk7
                      have HR7 := Lib.hid hrg7
                      have HK7 := Lib.hid hk7
                      clear hrg7 hk7)
                    go_frame
                    obtain ⟨r1, hr1⟩ : ∃ r1, r1 = w6.heap.size := ⟨_, rfl⟩
                    rw [← hr1] at HR7 ⊢
                    have HR1e := Lib.hid hr1
                    clear hr1
                    go_loopw [16, 17] (fun _ _ wr => ∃ (met : List (Lit × Value)) (cn : Nat), Rgs Try.prog 3 wr bm r1 M met cn ∧ Keeps (fun _ => False) w6 wr) (fun _ _ wr => wr.rangeLeft bm r1)
                    case atStart => exact ⟨[], _, HR7.out, HK7.out⟩
                    case round =>
                      clear HR7 HK7
                      obtain ⟨met, cn, hrg, hk⟩ := hrel
                      have HRG := Lib.hid hrg
                      have HK := Lib.hid hk
                      clear hrg hk
                      go_wp2_with (
                        at_next
                        refine wpList_next_m _ rfl _ rfl 3 int_key (Value.int .i64) mkS int_shape bm r1 M met cn (words_shape HF5.out) rfl HRG.out ?_ ?_)
                      · intro hperm
                        clear hperm
                        go_wp2_with fail
                        exact ⟨⟨j + 1, by go_num, by omega, Lib.hid (HK6.out.trans HK.out)⟩, by simp [intOf]; omega⟩
                      · intro x cc kl w8 cn8 hkey hmem hnew hrg8 hlt8 hk8 hen
                        obtain ⟨x', hx1, rfl, hwx⟩ := Go.Maps.keyOf_int_inv Try.underlying3 hkey
                        injection hx1 with _ hx1
                        subst hx1
                        obtain ⟨A8, z, v, k8, rfl, hzk, hwd, hly⟩ := word_of HF5.out hmem
                        simp only [mkS] at hrg8 hen ⊢
                        have HRG8 := Lib.hid hrg8
                        have HK8 := Lib.hid (keeps_low HK.out hk8 (fun y hy => by have := HR1e.out; omega))
                        have HLT8 := Lib.hid hlt8
                        have HWX := Lib.hid hwx
                        have HFO := Lib.hid (found_is HLz.out HLk.out hwd)
                        have HZ20 : Hid (z ≤ 20 ∧ v < 2 ^ z) := (words_spec Ls HLz.out HPP.out).1 _ hwd
                        have HLY := Lib.hid (hly.keeps (HK56.out.trans HK8.out) (fun _ _ _ => id))
                        clear hkey hmem hnew hrg8 hlt8 hk8 hwx hwd hly
                        go_upto_region 40 with fail
                        clear hen
                        obtain ⟨g, hg⟩ : ∃ g, w8.heap.size = g := ⟨_, rfl⟩
                        have hbw := Bw.new_bw w8
                        have hk9 : Keeps (fun _ => False) w8 (w8.alloc (.cells #[.slice none 0 0, .int .u64 0, .int .i64 0] 45)) := (Keeps.refl _ _).alloc _
                        generalize w8.alloc (.cells #[.slice none 0 0, .int .u64 0, .int .i64 0] 45) = W9 at hbw hk9 ⊢
                        rw [hg] at hbw ⊢
                        have HBW9 := Lib.hid hbw
                        have HC9 := Lib.hid (HC6.out.keeps (HK8.out.trans hk9) (fun _ _ _ => id))
                        have HRG9 := Lib.hid (HRG8.out.keeps hk9 id id)
                        have HLY9 := Lib.hid (HLY.out.keeps hk9 (fun _ _ _ => id))
                        have HK9 := Lib.hid (HK8.out.trans hk9)
                        have HBg : Hid (bm < g) := by show _ < _; rw [← hg]; exact HRG8.out.isM.lt
                        have HRg : Hid (r1 < g) := by show _ < _; rw [← hg]; exact HRG8.out.lt
                        have HCg : Hid (w6.heap.size ≤ g) := by show _ ≤ _; rw [← hg]; exact HK8.out.size
                        have HLg : Hid (∀ b o, A8 = some ⟨b, o, none⟩ → Bq.ib (tb v z) ≠ [] → b < g) := fun b o hb hne => by
                          rcases HLY.out with h | ⟨b', o', h1, h2, _⟩
                          · exact absurd h hne
                          · rw [h1] at hb; injection hb with hb; injection hb with hb _; omega
                        have HSZ := Lib.hid (fun w (h : IsCode bb w pc (wordsOf Ls)) => size_ bb pc (wordsOf Ls) x w h HWX.out)
                        rw [show wz (wordsOf Ls) x = z by simp [wz, HFO.out], HFO.out] at HSZ
                        clear hg hbw hk9 HLY HRG8 HK8
                        go_upto_region 41 with (
                          go_at_call 14
                          refine (HSZ.out _ HC9.out).mono ?_
                          rintro e w10 ⟨rfl, hk10⟩
                          have HC10 := Lib.hid (HC9.out.keeps hk10 (fun _ _ _ => id))
                          have HBW10 := Lib.hid (HBW9.out.keeps hk10 (fun _ _ => id))
                          have HRG10 := Lib.hid (HRG9.out.keeps hk10 id id)
                          have HLY10 := Lib.hid (HLY9.out.keeps hk10 (fun _ _ _ => id))
                          have HK10 := Lib.hid (HK9.out.trans hk10)
                          have HC10l : Hid (∀ b, bb ≤ b → b < w6.heap.size → ¬ g ≤ b) := (Lib.hid fun b _ hb => by have := HCg.out; omega)
                          clear hk10 HC9 HBW9 HRG9 HLY9 HK9)
                        go_cut [182] from 153 to 182 (fun bv wx => bv = .bool false ∧ Hid (Keeps (g ≤ ·) w10 wx))
                        case first =>
                          have hzz : ((z : Int) != (z : Int)) = false := by simp
                          have hv32 : v < 4294967296 := Nat.lt_of_lt_of_le HZ20.out.2 (Nat.le_trans (Nat.pow_le_pow_right (n := 2) (by omega) (show z ≤ 32 by have := HZ20.out.1; omega)) (by decide))
                          have hz20 : z ≤ 20 := HZ20.out.1
                          refine wp_region_held_drew (S := fun w' => Keeps (g ≤ ·) w10 w') (by kernel_rfl) ((Keeps.refl _ _).drewN 1) (fun hHeld => ?_)
                          have HDr : Hid (Keeps (fun _ => False) w10 w10.drew) := (Keeps.refl _ _).drewN 1
                          generalize w10.drew = w11 at hHeld HDr ⊢
                          refine wpAnyH_take (i := 0) (v := ?v7) rfl (by kernel_rfl) (by kernel_rfl) (by kernel_rfl) (fun _ _ _ h => h) (Or.inl ⟨by rfl, ?y7⟩) hHeld ?r7
                          case y7 => (intro w hSw; go_simp; try with_reducible rfl)
                          simp only [Act.put, List.getElem_toArray, List.getElem_cons_succ, List.getElem_cons_zero, List.setIfInBounds_toArray, List.set_cons_zero, List.set_cons_succ]
                          refine wpAnyH_take (i := 1) (v := ?v8) rfl (by kernel_rfl) (by kernel_rfl) (by kernel_rfl) (fun _ _ _ h => h) (Or.inl ⟨by rfl, ?y8⟩) hHeld ?r8
                          case y8 => (intro w hSw; go_simp; try with_reducible rfl)
                          simp only [Act.put, List.getElem_toArray, List.getElem_cons_succ, List.getElem_cons_zero, List.setIfInBounds_toArray, List.set_cons_zero, List.set_cons_succ]
                          refine wpAnyH_take (i := 2) (v := ?v9) rfl (by kernel_rfl) (by kernel_rfl) (by kernel_rfl) (fun _ _ _ h => h) (Or.inl ⟨by rfl, ?y9⟩) hHeld ?r9
                          case y9 => (intro w hSw; go_simp; try with_reducible rfl)
                          simp only [Act.put, List.getElem_toArray, List.getElem_cons_succ, List.getElem_cons_zero, List.setIfInBounds_toArray, List.set_cons_zero, List.set_cons_succ]
                          refine wpAnyH_take (i := 3) (v := ?v10) rfl (by kernel_rfl) (by kernel_rfl) (by kernel_rfl) (fun _ _ _ h => h) (Or.inl ⟨by rfl, ?y10⟩) hHeld ?r10
                          case y10 => (intro w hSw; go_simp; try with_reducible rfl)
                          simp only [Act.put, List.getElem_toArray, List.getElem_cons_succ, List.getElem_cons_zero, List.setIfInBounds_toArray, List.set_cons_zero, List.set_cons_succ]
                          refine wpAnyH_take (i := 4) (v := ?v11) rfl (by kernel_rfl) (by kernel_rfl) (by kernel_rfl) (fun _ _ _ h => h) (Or.inl ⟨by rfl, ?y11⟩) hHeld ?r11
                          case y11 => (intro w hSw; go_simp; try with_reducible rfl)
                          simp only [Act.put, List.getElem_toArray, List.getElem_cons_succ, List.getElem_cons_zero, List.setIfInBounds_toArray, List.set_cons_zero, List.set_cons_succ]
                          refine wpAnyH_take (i := 5) (v := ?v12) rfl (by kernel_rfl) (by kernel_rfl) (by kernel_rfl) (fun _ _ _ h => h) (Or.inl ⟨by rfl, ?y12⟩) hHeld ?r12
                          case y12 => (intro w hSw; go_simp; try with_reducible rfl)
                          simp only [Act.put, List.getElem_toArray, List.getElem_cons_succ, List.getElem_cons_zero, List.setIfInBounds_toArray, List.set_cons_zero, List.set_cons_succ]
                          refine wpAnyH_take (i := 6) (v := ?v13) rfl (by kernel_rfl) (by kernel_rfl) (by kernel_rfl) (fun _ _ _ h => h) (Or.inl ⟨by rfl, ?y13⟩) hHeld ?r13
                          case y13 => (intro w hSw; go_simp; try with_reducible rfl)
                          simp only [Act.put, List.getElem_toArray, List.getElem_cons_succ, List.getElem_cons_zero, List.setIfInBounds_toArray, List.set_cons_zero, List.set_cons_succ]
                          refine wpAnyH_take (i := 7) (v := ?v14) rfl (by kernel_rfl) (by kernel_rfl) (by kernel_rfl) (fun _ _ _ h => h) (Or.inl ⟨by rfl, ?y14⟩) hHeld ?r14
                          case y14 => (intro w hSw; go_simp; try with_reducible rfl)
                          simp only [Act.put, List.getElem_toArray, List.getElem_cons_succ, List.getElem_cons_zero, List.setIfInBounds_toArray, List.set_cons_zero, List.set_cons_succ]
                          refine wpAnyH_take (i := 8) (v := ?v15) rfl (by kernel_rfl) (by kernel_rfl) (by kernel_rfl) (fun _ _ _ h => h) (Or.inl ⟨by rfl, ?y15⟩) hHeld ?r15
                          case y15 => (intro w hSw; go_simp; try with_reducible rfl)
                          simp only [Act.put, List.getElem_toArray, List.getElem_cons_succ, List.getElem_cons_zero, List.setIfInBounds_toArray, List.set_cons_zero, List.set_cons_succ]
                          refine wpAnyH_take (i := 9) (v := ?v16) rfl (by kernel_rfl) (by kernel_rfl) (by kernel_rfl) (fun _ _ _ h => h) (Or.inl ⟨by rfl, ?y16⟩) hHeld ?r16
                          case y16 => (intro w hSw; go_simp; try with_reducible rfl)
                          simp only [Act.put, List.getElem_toArray, List.getElem_cons_succ, List.getElem_cons_zero, List.setIfInBounds_toArray, List.set_cons_zero, List.set_cons_succ]
                          refine wpAnyH_take (i := 10) (v := ?v17) rfl (by kernel_rfl) (by kernel_rfl) (by kernel_rfl) (fun _ _ _ h => h) (Or.inl ⟨by rfl, ?y17⟩) hHeld ?r17
                          case y17 => (intro w hSw; go_simp; try with_reducible rfl)
                          simp only [Act.put, List.getElem_toArray, List.getElem_cons_succ, List.getElem_cons_zero, List.setIfInBounds_toArray, List.set_cons_zero, List.set_cons_succ]
                          refine wpAnyH_take (i := 11) (v := ?v18) rfl (by kernel_rfl) (by kernel_rfl) (by kernel_rfl) (fun _ _ _ h => h) (Or.inl ⟨by rfl, ?y18⟩) hHeld ?r18
                          case y18 => (intro w hSw; go_simp; try with_reducible rfl)
                          simp only [Act.put, List.getElem_toArray, List.getElem_cons_succ, List.getElem_cons_zero, List.setIfInBounds_toArray, List.set_cons_zero, List.set_cons_succ]
                          refine wpAnyH_ready (rs := [12]) (by kernel_rfl) (by simp) ?_
                          refine AllReadyH.cons rfl (fun K hK => ?_) AllReadyH.nil
                          go_simp
                          refine (put_some bb pc (wordsOf Ls) x z v g g (.slice none 0 0) [] _ (HC10.out.keeps HDr.out (fun _ _ _ => id)) HWX.out HFO.out (by omega) hv32 (HBW10.out.keeps HDr.out (fun _ _ => id)) (by simp)).mono ?_
                          rintro e w12 ⟨rfl, v12, hb12, hm12⟩
                          dsimp only
                          rw [List.nil_append] at hb12
                          have HB12 := Lib.hid hb12
                          have hH12 : Keeps (g ≤ ·) w10 w12 := hHeld.trans (hm12.keeps.mono fun b _ hb => by
                            rcases hb with hb | hb
                            · omega
                            · simp [Value.ownBlock] at hb)
                          clear hb12 hm12
                          refine hK.out _ _ hH12 (fun hHeld => ?_)
                          clear hK K
                          try simp only [Act.put, List.getElem_toArray, List.getElem_cons_succ, List.getElem_cons_zero, List.setIfInBounds_toArray, List.set_cons_zero, List.set_cons_succ]
                          refine wpAnyH_take (i := 13) (v := ?v19) rfl (by kernel_rfl) (by kernel_rfl) (by kernel_rfl) (fun _ _ _ h => h) (Or.inl ⟨by rfl, ?y19⟩) hHeld ?r19
                          case y19 => (intro w hSw; go_simp; try with_reducible rfl)
                          simp only [Act.put, List.getElem_toArray, List.getElem_cons_succ, List.getElem_cons_zero, List.setIfInBounds_toArray, List.set_cons_zero, List.set_cons_succ]
                          refine wpAnyH_take (i := 14) (v := ?v20) rfl (by kernel_rfl) (by kernel_rfl) (by kernel_rfl) (fun _ _ _ h => h) (Or.inl ⟨by rfl, ?y20⟩) hHeld ?r20
                          case y20 => (intro w hSw; go_simp; try with_reducible rfl)
                          simp only [Act.put, List.getElem_toArray, List.getElem_cons_succ, List.getElem_cons_zero, List.setIfInBounds_toArray, List.set_cons_zero, List.set_cons_succ]
                          refine wpAnyH_take (i := 15) (v := ?v21) rfl (by kernel_rfl) (by kernel_rfl) (by kernel_rfl) (fun _ _ _ h => h) (Or.inl ⟨by rfl, ?y21⟩) hHeld ?r21
                          case y21 => (intro w hSw; go_simp; try with_reducible rfl)
                          simp only [Act.put, List.getElem_toArray, List.getElem_cons_succ, List.getElem_cons_zero, List.setIfInBounds_toArray, List.set_cons_zero, List.set_cons_succ]
                          refine wpAnyH_take (i := 16) (v := ?v22) rfl (by kernel_rfl) (by kernel_rfl) (by kernel_rfl) (fun _ _ _ h => h) (Or.inl ⟨by rfl, ?y22⟩) hHeld ?r22
                          case y22 => (intro w hSw; go_simp; try with_reducible rfl)
                          simp only [Act.put, List.getElem_toArray, List.getElem_cons_succ, List.getElem_cons_zero, List.setIfInBounds_toArray, List.set_cons_zero, List.set_cons_succ]
                          refine wpAnyH_take (i := 18) (v := ?v23) rfl (by kernel_rfl) (by kernel_rfl) (by kernel_rfl) (fun _ _ _ h => h) (Or.inl ⟨by rfl, ?y23⟩) hHeld ?r23
                          case y23 => (intro w hSw; go_simp; try with_reducible rfl)
                          simp only [Act.put, List.getElem_toArray, List.getElem_cons_succ, List.getElem_cons_zero, List.setIfInBounds_toArray, List.set_cons_zero, List.set_cons_succ]
                          refine wpAnyH_ready (rs := [17]) (by kernel_rfl) (by simp) ?_
                          refine AllReadyH.cons rfl (fun K hK => ?_) AllReadyH.nil
                          go_simp
                          refine (Bw.len_bw g g v12 (tb v z) z _ HB12.out (by rw [tb_len]; omega) (tb_len _ _)).mono ?_
                          rintro e w13 ⟨rfl, n13, hw13⟩
                          dsimp only
                          have hkd : Keeps (fun _ => False) w12 w13 := by rw [hw13]; exact (Keeps.refl _ _).drewN n13
                          have HB13 := Lib.hid (HB12.out.keeps hkd (fun _ _ => id))
                          have hH13 := hHeld.trans hkd.none_
                          clear hw13 hkd
                          refine hK.out _ _ hH13 (fun hHeld => ?_)
                          clear hK K
                          try simp only [Act.put, List.getElem_toArray, List.getElem_cons_succ, List.getElem_cons_zero, List.setIfInBounds_toArray, List.set_cons_zero, List.set_cons_succ]
                          refine wpAnyH_take (i := 19) (v := ?v24) rfl (by kernel_rfl) (by kernel_rfl) (by kernel_rfl) (fun _ _ _ h => h) (Or.inl ⟨by rfl, ?y24⟩) hHeld ?r24
                          case y24 => (intro w hSw; go_simp; try with_reducible rfl)
                          simp only [Act.put, List.getElem_toArray, List.getElem_cons_succ, List.getElem_cons_zero, List.setIfInBounds_toArray, List.set_cons_zero, List.set_cons_succ]
                          refine wpAnyH_take (i := 20) (v := ?v25) rfl (by kernel_rfl) (by kernel_rfl) (by kernel_rfl) (fun _ _ _ h => h) (Or.inl ⟨by rfl, ?y25⟩) hHeld ?r25
                          case y25 => (intro w hSw; go_simp; try with_reducible rfl)
                          simp only [Act.put, List.getElem_toArray, List.getElem_cons_succ, List.getElem_cons_zero, List.setIfInBounds_toArray, List.set_cons_zero, List.set_cons_succ]
                          refine wpAnyH_take (i := 21) (v := ?v26) rfl (by kernel_rfl) (by kernel_rfl) (by kernel_rfl) (fun _ _ _ h => h) (Or.inl ⟨by rfl, ?y26⟩) hHeld ?r26
                          case y26 => (intro w hSw; go_simp; try with_reducible rfl)
                          simp only [Act.put, List.getElem_toArray, List.getElem_cons_succ, List.getElem_cons_zero, List.setIfInBounds_toArray, List.set_cons_zero, List.set_cons_succ]
                          refine wpAnyH_take (i := 22) (v := ?v27) rfl (by kernel_rfl) (by kernel_rfl) (by kernel_rfl) (fun _ _ _ h => h) (Or.inl ⟨by rfl, ?y27⟩) hHeld ?r27
                          case y27 => (intro w hSw; go_simp; try with_reducible rfl)
                          simp only [Act.put, List.getElem_toArray, List.getElem_cons_succ, List.getElem_cons_zero, List.setIfInBounds_toArray, List.set_cons_zero, List.set_cons_succ]
                          refine wpAnyH_take (i := 25) (v := ?v28) rfl (by kernel_rfl) (by kernel_rfl) (by kernel_rfl) (fun _ _ _ h => h) (Or.inl ⟨by rfl, ?y28⟩) hHeld ?r28
                          case y28 => (intro w hSw; go_simp; try with_reducible rfl)
                          simp only [Act.put, List.getElem_toArray, List.getElem_cons_succ, List.getElem_cons_zero, List.setIfInBounds_toArray, List.set_cons_zero, List.set_cons_succ]
                          refine wpAnyH_ready (rs := [23]) (by kernel_rfl) (by simp) ?_
                          refine AllReadyH.cons rfl (fun K hK => ?_) AllReadyH.nil
                          go_simp
                          refine (Bw.bytes g g v12 (tb v z) _ HB13.out (by rw [tb_len]; omega)).mono ?_
                          rintro e w14 ⟨A14, c14, ys, m14, hl14, rfl, hp14, hy14, ho14, hk14⟩
                          dsimp only
                          have HL14 := Lib.hid (Lies.of_own ho14)
                          have HP14 := Lib.hid hp14
                          have HY14 := Lib.hid hy14
                          have HN14 := Lib.hid hl14
                          obtain ⟨sx, hsx⟩ : ∃ sx, strOfNums ys = sx := ⟨_, rfl⟩
                          have HSX := Lib.hid hsx
                          have hH14 := hHeld.trans hk14.none_
                          clear ho14 hp14 hy14 hl14 hk14 hsx
                          refine hK.out _ _ hH14 (fun hHeld => ?_)
                          clear hK K
                          try simp only [Act.put, List.getElem_toArray, List.getElem_cons_succ, List.getElem_cons_zero, List.setIfInBounds_toArray, List.set_cons_zero, List.set_cons_succ]
                          refine wpAnyH_ready (rs := [24, 26]) (by kernel_rfl) (by simp) ?_
                          refine AllReadyH.cons rfl (fun K hK => ?_) (AllReadyH.cons rfl (fun K hK => ?_) AllReadyH.nil)
                          · have hcv := HL14.out.str_n (P := Try.prog) m14 HN14.out 38 9 5 c14 Try.underlying38 Try.underlying5 Try.underlying9
                            rw [HSX.out] at hcv
                            go_simp
                            clear hcv
                            refine hK.out _ _ hHeld (fun hHeld => ?_)
                            clear hK K
                            try simp only [Act.put, List.getElem_toArray, List.getElem_cons_succ, List.getElem_cons_zero, List.setIfInBounds_toArray, List.set_cons_zero, List.set_cons_succ]
                            refine wpAnyH_ready (rs := [26]) (by kernel_rfl) (by simp) ?_
                            refine AllReadyH.cons rfl (fun K hK => ?_) AllReadyH.nil
                            go_simp
                            refine (Rb.rbytes_ A8 z k8 (tb v z) _ (tb_len _ _) (lies_far HLY10.out hHeld (fun b o hb hne h => by have := HLg.out b o hb hne; omega)) (tb_bit _ _) (by omega)).mono ?_
                            rintro e w15 ⟨A15, c15, ys2, m15, hl15, rfl, hp15, hy15, ho15, hk15⟩
                            dsimp only
                            obtain rfl : ys2 = ys := Bw.packed_one hp15 HP14.out hy15 HY14.out
                            have HL15 := Lib.hid (Lies.of_own ho15)
                            have HN15 := Lib.hid hl15
                            replace HL14 := Lib.hid (HL14.out.keeps hk15 (fun _ _ _ => id))
                            have hH15 := hHeld.trans hk15.none_
                            clear ho15 hp15 hy15 hl15 hk15
                            refine hK.out _ _ hH15 (fun hHeld => ?_)
                            clear hK K
                            try simp only [Act.put, List.getElem_toArray, List.getElem_cons_succ, List.getElem_cons_zero, List.setIfInBounds_toArray, List.set_cons_zero, List.set_cons_succ]
                            refine wpAnyH_ready (rs := [27]) (by kernel_rfl) (by simp) ?_
                            refine AllReadyH.cons rfl (fun K hK => ?_) AllReadyH.nil
                            have hcv := HL15.out.str_n (P := Try.prog) m15 HN15.out 38 9 5 c15 Try.underlying38 Try.underlying5 Try.underlying9
                            rw [HSX.out] at hcv
                            go_simp
                            clear hcv
                            refine hK.out _ _ hHeld (fun hHeld => ?_)
                            clear hK K
                            try simp only [Act.put, List.getElem_toArray, List.getElem_cons_succ, List.getElem_cons_zero, List.setIfInBounds_toArray, List.set_cons_zero, List.set_cons_succ]
                            refine wpAnyH_take (i := 28) (v := ?v1) rfl (by kernel_rfl) (by kernel_rfl) (by kernel_rfl) (fun _ _ _ h => h) (Or.inl ⟨by rfl, ?y1⟩) hHeld ?r1
                            case y1 => (intro w hSw; go_simp; try with_reducible rfl)
                            simp only [Act.put, List.getElem_toArray, List.getElem_cons_succ, List.getElem_cons_zero, List.setIfInBounds_toArray, List.set_cons_zero, List.set_cons_succ]
                            refine wpAnyH_take (i := 29) (v := ?v2) rfl (by kernel_rfl) (by kernel_rfl) (by kernel_rfl) (fun _ _ _ h => h) (Or.inl ⟨by rfl, ?y2⟩) hHeld ?r2
                            case y2 => (intro w hSw; go_simp; try with_reducible rfl)
                            simp only [Act.put, List.getElem_toArray, List.getElem_cons_succ, List.getElem_cons_zero, List.setIfInBounds_toArray, List.set_cons_zero, List.set_cons_succ]
                            refine wpAnyH_done (by kernel_rfl) ?_ _
                            have HFin := Lib.hid hHeld
                            clear hHeld
                            go_wp2_with fail
                            go_meet
                            case rel => exact ⟨rfl, HFin⟩
                          · go_simp
                            refine (Rb.rbytes_ A8 z k8 (tb v z) _ (tb_len _ _) (lies_far HLY10.out hHeld (fun b o hb hne h => by have := HLg.out b o hb hne; omega)) (tb_bit _ _) (by omega)).mono ?_
                            rintro e w15 ⟨A15, c15, ys2, m15, hl15, rfl, hp15, hy15, ho15, hk15⟩
                            dsimp only
                            obtain rfl : ys2 = ys := Bw.packed_one hp15 HP14.out hy15 HY14.out
                            have HL15 := Lib.hid (Lies.of_own ho15)
                            have HN15 := Lib.hid hl15
                            replace HL14 := Lib.hid (HL14.out.keeps hk15 (fun _ _ _ => id))
                            have hH15 := hHeld.trans hk15.none_
                            clear ho15 hp15 hy15 hl15 hk15
                            refine hK.out _ _ hH15 (fun hHeld => ?_)
                            clear hK K
                            try simp only [Act.put, List.getElem_toArray, List.getElem_cons_succ, List.getElem_cons_zero, List.setIfInBounds_toArray, List.set_cons_zero, List.set_cons_succ]
                            refine wpAnyH_ready (rs := [24, 27]) (by kernel_rfl) (by simp) ?_
                            refine AllReadyH.cons rfl (fun K hK => ?_) (AllReadyH.cons rfl (fun K hK => ?_) AllReadyH.nil)
                            · have hcv := HL14.out.str_n (P := Try.prog) m14 HN14.out 38 9 5 c14 Try.underlying38 Try.underlying5 Try.underlying9
                              rw [HSX.out] at hcv
                              go_simp
                              clear hcv
                              refine hK.out _ _ hHeld (fun hHeld => ?_)
                              clear hK K
                              try simp only [Act.put, List.getElem_toArray, List.getElem_cons_succ, List.getElem_cons_zero, List.setIfInBounds_toArray, List.set_cons_zero, List.set_cons_succ]
                              refine wpAnyH_ready (rs := [27]) (by kernel_rfl) (by simp) ?_
                              refine AllReadyH.cons rfl (fun K hK => ?_) AllReadyH.nil
                              have hcv := HL15.out.str_n (P := Try.prog) m15 HN15.out 38 9 5 c15 Try.underlying38 Try.underlying5 Try.underlying9
                              rw [HSX.out] at hcv
                              go_simp
                              clear hcv
                              refine hK.out _ _ hHeld (fun hHeld => ?_)
                              clear hK K
                              try simp only [Act.put, List.getElem_toArray, List.getElem_cons_succ, List.getElem_cons_zero, List.setIfInBounds_toArray, List.set_cons_zero, List.set_cons_succ]
                              refine wpAnyH_take (i := 28) (v := ?v3) rfl (by kernel_rfl) (by kernel_rfl) (by kernel_rfl) (fun _ _ _ h => h) (Or.inl ⟨by rfl, ?y3⟩) hHeld ?r3
                              case y3 => (intro w hSw; go_simp; try with_reducible rfl)
                              simp only [Act.put, List.getElem_toArray, List.getElem_cons_succ, List.getElem_cons_zero, List.setIfInBounds_toArray, List.set_cons_zero, List.set_cons_succ]
                              refine wpAnyH_take (i := 29) (v := ?v4) rfl (by kernel_rfl) (by kernel_rfl) (by kernel_rfl) (fun _ _ _ h => h) (Or.inl ⟨by rfl, ?y4⟩) hHeld ?r4
                              case y4 => (intro w hSw; go_simp; try with_reducible rfl)
                              simp only [Act.put, List.getElem_toArray, List.getElem_cons_succ, List.getElem_cons_zero, List.setIfInBounds_toArray, List.set_cons_zero, List.set_cons_succ]
                              refine wpAnyH_done (by kernel_rfl) ?_ _
                              have HFin := Lib.hid hHeld
                              clear hHeld
                              go_wp2_with fail
                              go_meet
                              case rel => exact ⟨rfl, HFin⟩
                            · have hcv := HL15.out.str_n (P := Try.prog) m15 HN15.out 38 9 5 c15 Try.underlying38 Try.underlying5 Try.underlying9
                              rw [HSX.out] at hcv
                              go_simp
                              clear hcv
                              refine hK.out _ _ hHeld (fun hHeld => ?_)
                              clear hK K
                              try simp only [Act.put, List.getElem_toArray, List.getElem_cons_succ, List.getElem_cons_zero, List.setIfInBounds_toArray, List.set_cons_zero, List.set_cons_succ]
                              refine wpAnyH_ready (rs := [24]) (by kernel_rfl) (by simp) ?_
                              refine AllReadyH.cons rfl (fun K hK => ?_) AllReadyH.nil
                              have hcv := HL14.out.str_n (P := Try.prog) m14 HN14.out 38 9 5 c14 Try.underlying38 Try.underlying5 Try.underlying9
                              rw [HSX.out] at hcv
                              go_simp
                              clear hcv
                              refine hK.out _ _ hHeld (fun hHeld => ?_)
                              clear hK K
                              try simp only [Act.put, List.getElem_toArray, List.getElem_cons_succ, List.getElem_cons_zero, List.setIfInBounds_toArray, List.set_cons_zero, List.set_cons_succ]
                              refine wpAnyH_take (i := 28) (v := ?v5) rfl (by kernel_rfl) (by kernel_rfl) (by kernel_rfl) (fun _ _ _ h => h) (Or.inl ⟨by rfl, ?y5⟩) hHeld ?r5
                              case y5 => (intro w hSw; go_simp; try with_reducible rfl)
                              simp only [Act.put, List.getElem_toArray, List.getElem_cons_succ, List.getElem_cons_zero, List.setIfInBounds_toArray, List.set_cons_zero, List.set_cons_succ]
                              refine wpAnyH_take (i := 29) (v := ?v6) rfl (by kernel_rfl) (by kernel_rfl) (by kernel_rfl) (fun _ _ _ h => h) (Or.inl ⟨by rfl, ?y6⟩) hHeld ?r6
                              case y6 => (intro w hSw; go_simp; try with_reducible rfl)
                              simp only [Act.put, List.getElem_toArray, List.getElem_cons_succ, List.getElem_cons_zero, List.setIfInBounds_toArray, List.set_cons_zero, List.set_cons_succ]
                              refine wpAnyH_done (by kernel_rfl) ?_ _
                              have HFin := Lib.hid hHeld
                              clear hHeld
                              go_wp2_with fail
                              go_meet
                              case rel => exact ⟨rfl, HFin⟩
                        case rest =>
                          obtain ⟨rfl, HKc⟩ := hcut
                          have HRGO := Lib.hid (HRG10.out.keeps HKc.out (by have := HBg.out; omega) (by have := HRg.out; omega))
                          have HKO : Hid (Keeps (fun _ => False) w6 wc) := keeps_low HK10.out HKc.out (fun b hb => by have := HCg.out; omega)
                          go_wp2_with fail
                          refine ⟨⟨_, _, HRGO.out, HKO.out⟩, ?_⟩
                          rw [HRG.out.left_eq, HRGO.out.left_eq]
                          exact HLT8.out
                  · have HW2 : Hid (Calls Try.prog 13 #[.slice X n cx] Wc fun r w' => Keeps (fun _ => False) Wc w' ∧ r = .returned (.map none)) := by
                      refine Lib.hid (HWO.out.mono ?_)
                      rintro r w' ⟨h1, ⟨_, h2⟩ | ⟨h2, _⟩⟩
                      · exact ⟨h1, h2⟩
                      · omega
                    have HPP : Hid (2 ^ 20 < posOf (nats' L)) := by show _ < _; omega
                    clear HWO hp
                    go_upto_region 33 with (
                      go_at_call 13
                      refine HW2.out.mono ?_
                      rintro e w5 ⟨hk5, rfl⟩
                      have HK5 := Lib.hid (HKC.out.trans hk5)
                      have HR5 := Lib.hid (HRC.out.keeps hk5 (fun _ _ _ => id))
                      clear hk5)
                    go_upto_region 36 with (
                      go_at_call 11
                      refine (HNEW.out _ HR5.out).mono ?_
                      rintro e w6 ⟨hna, hk6⟩
                      obtain rfl := new_far HLN.out HK1n.out HPP.out hna
                      have HK6 := Lib.hid (HK5.out.trans hk6)
                      clear hna hk6)
                    have hrg := run_range_nilMap (P := Try.prog) w6 40 3 38 Try.underlying40
                    have hnx : ∀ ty, (Instr.next (.pointer (some ⟨w6.heap.size, 0, none⟩)) false ty).run Try.prog (w6.alloc (.mapIter none 0 #[] 0)) = _ := fun ty => run_next_nilMap w6 ty 0 0 #[]
                    go_wp2_with fail
                    refine wp_loop_rounds 1 ?_
                    rw [rounds_succ]
                    go_wp2_with fail
                    exact ⟨⟨j + 1, by go_num, by omega, Lib.hid (HK6.out.alloc _)⟩, by simp [intOf]; omega⟩
                · have hkb : (k1 == 0) = false := by simpa using hk0
                  have hkc : (k1 != k1) = false := by simp
                  go_upto_region 36 with (
                    go_at_call 11
                    refine (HNEW.out _ HRC.out).mono ?_
                    rintro e w5 ⟨hna, hk5⟩
                    obtain rfl := new_bad HLN.out HK1n.out hk0 hna
                    have HK5 := Lib.hid (HKC.out.trans hk5)
                    clear hna hk5)
                  have hrg := run_range_nilMap (P := Try.prog) w5 40 3 38 Try.underlying40
                  have hnx : ∀ ty, (Instr.next (.pointer (some ⟨w5.heap.size, 0, none⟩)) false ty).run Try.prog (w5.alloc (.mapIter none 0 #[] 0)) = _ := fun ty => run_next_nilMap w5 ty 0 0 #[]
                  go_wp2_with fail
                  refine wp_loop_rounds 1 ?_
                  rw [rounds_succ]
                  go_wp2_with fail
                  exact ⟨⟨j + 1, by go_num, by omega, Lib.hid (HK5.out.alloc _)⟩, by simp [intOf]; omega⟩
        · obtain rfl : j = 2 := by omega
          go_wp2_with fail
          go_ret
          exact ⟨rfl, (HKW.out.trans HKR.out).below (Nat.le_refl _) (fun _ h => h.elim)⟩

set_option maxRecDepth 100000 in
theorem lifted (os : Os) (started : os.Started) (H : Type) (enc : TypeId × Value → H) :
    ReturnsInHanded {} Try.checked os 4 .any (Rows.huffWordsSpec.pre6 enc Try.prog Try.f4 Rows.huffWordsRow.domain false) (Rows.huffWordsSpec.post enc Try.prog Try.f4 false true false false) := by
  refine returnsInHanded_of_change (C := Try.checked) own started (by kernel_rfl) Try.func4
    (ChangeSpec.witness6 (enc := enc) (C := Try.checked) false ⟨#[], #[.slice none 0 0, .slice none 0 0], []⟩ 8 (by kernel_rfl) (by kernel_rfl) (by kernel_rfl) (by kernel_rfl)) ?_
  intro W base args ds gs before hval0 hW hcnd _
  have hval : ∀ (j : Nat) t v, Try.f4.params[j]? = some t → args[j]? = some v → Value.okWide Try.prog W .any base t v := hval0
  have hW' := hW
  obtain ⟨p, q, hA0, hV, rfl, hfz, hnd⟩ := hW
  have hA : DataW.TrodAll enc Try.prog W 0 (fun _ => true) true Try.f4.params.toList args.toList ds p := hA0
  rw [Try.params4] at hA hval
  obtain ⟨v0, vs0, d0, ds0, p0, q0, hargs, rfl, rfl, h0, r0⟩ := trodAll_cons hA
  obtain ⟨v1, vs1, d1, ds1, p1, q1, rfl, rfl, rfl, h1, r1⟩ := trodAll_cons r0
  obtain ⟨rfl, rfl, rfl⟩ := trodAll_nil r1
  obtain rfl : args = #[v0, v1] := by cases args; simp_all
  obtain ⟨rfl, rfl⟩ := trodVars_none hV
  obtain ⟨a0, len0, cap0, rfl⟩ := okWide_slice Try.underlying26 (hval 0 26 v0 rfl rfl)
  have k0 := h0
  have lt0 : ∀ x ∈ p0, x.block < W.heap.size := by obtain ⟨m, hm⟩ := k0; exact DataW.trod_lt m _ _ _ hm
  obtain ⟨z0, w0⟩ : ∃ zs, IsPairs .i64 .i64 W a0 len0 cap0 zs := by
    obtain ⟨fuel, hf⟩ := h0
    exact open_pairs Try.underlying26 Try.underlying34 Try.underlying3 Try.underlying3 (by kernel_rfl) rfl rfl (by kernel_rfl) (by kernel_rfl) hf
  obtain ⟨a1, len1, cap1, rfl⟩ := okWide_slice Try.underlying38 (hval 1 38 v1 rfl rfl)
  have k1 := h1
  have lt1 : ∀ x ∈ p1, x.block < W.heap.size := by obtain ⟨m, hm⟩ := k1; exact DataW.trod_lt m _ _ _ hm
  obtain ⟨z1, w1⟩ : ∃ zs, IsRow .u8 W a1 len1 cap1 zs := by
    obtain ⟨fuel, hf⟩ := h1
    exact open_row Try.underlying38 Try.underlying5 (by kernel_rfl) hf
  clear hA0 hval0
  refine (walk a0 len0 cap0 z0 a1 len1 cap1 z1 W w0 w1).mono fun e W' ⟨he, bel⟩ => ?_
  subst he
  exact ⟨_, rfl, _, _, _, [], _, [], hW', trodAll_mk1 (shut_bool Try.underlying4 _), (trodAll_cons_mk (Below.trod laidOut (by kernel_rfl) (of_decide_eq_true (by kernel_rfl)) k0 bel lt0) (trodAll_cons_mk (Below.trod laidOut (by kernel_rfl) (of_decide_eq_true (by kernel_rfl)) k1 bel lt1) trodAll_mk0)), rfl, bel.frame _, fun h => by cases h⟩

theorem over : Rows.huffWordsRow.holds Try.pinned (OpenSpec.ofChange Rows.huffWordsSpec) :=
  OpenClaim.holds_of_wide 4 Try.f4 rfl rfl rfl rfl rfl rfl rfl ⟨rfl, rfl, rfl, rfl, rfl⟩ rfl rfl rfl rfl rfl (by kernel_rfl) Try.func4 (by kernel_rfl)
    (of_decide_eq_true (by kernel_rfl)) (by unfold Func.isWrapper; first | (rw [if_pos (by decide +kernel)]; kernel_rfl) | (rw [if_neg (by decide +kernel)]; exact ⟨rfl, rfl⟩))
    (fun os started H enc _ => lifted os started H enc)

/-- The statement, as given. -/
theorem proved : Rows.HuffWordsSaid :=
  over
end Go.Proofs.Ytaamnbminmcbpaa.huffWords
namespace Go.Proofs.Ytaamnbminmcbpaa
/-- The statement, as given. -/
theorem huffWords_holds : Rows.HuffWordsSaid := huffWords.proved
#print axioms huffWords_holds
end Go.Proofs.Ytaamnbminmcbpaa
