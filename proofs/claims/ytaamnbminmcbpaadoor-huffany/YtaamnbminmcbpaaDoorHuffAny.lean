/- The statement HuffAny (P1, P5.2: any bits: numbers whose words they are, till there is none; entries' keys), as its card, holds for every input: the Go function answers true, and its arguments read as before. No conditions beyond the card's own. -/
import Derived.Test.YtaamnbminmcbpaaDoorRows
import Derived.WalkKit
import Derived.ProofKit
import Derived.OpenShut
import Derived.ShutString
import Derived.ChangeOld
import Derived.Below
import Derived.LaidMore
import Derived.Stop.Joined
import Derived.Stop.LaidErr
import Derived.SevenTiedAt
import Derived.Lib.LaidTab
import Derived.Test.YtaamnbminmcbpaaDoorTie
import Derived.Test.YtaamnbminmcbpaaDoorCards
import Derived.Test.YtaamnbminmcbpaaDoorHufKeyI
import Derived.Test.YtaamnbminmcbpaaDoorHufBk
import Derived.Test.YtaamnbminmcbpaaDoorHufTakeN
import Derived.Outline
import Derived.RegionTactic
import Derived.ChangeAlike
import Derived.BigQuiet
import Derived.Deep.CutBlock
import Derived.Deep.RegionHeld3
import Derived.Laws.IdiomRangeMap
import Derived.Laws.StructEq
import Derived.Deep.Slices
import Derived.Deep.SlicePairs
namespace Go.Proofs.YtaamnbminmcbpaaDoor.huffAny
open Go.ChangeShapes Go.WideShapes Go.ChangeAt Go.RowKit Go.Deep
open Go.Proofs.YtaamnbminmcbpaaDoor.Br Go.Proofs.YtaamnbminmcbpaaDoor.Gen Go.Proofs.YtaamnbminmcbpaaDoor.Mp Go.Proofs.YtaamnbminmcbpaaDoor.Hr Go.Proofs.YtaamnbminmcbpaaDoor.Hp Go.Proofs.YtaamnbminmcbpaaDoor.Hm Go.Proofs.YtaamnbminmcbpaaDoor.Hg Go.Proofs.YtaamnbminmcbpaaDoor.So Go.Proofs.YtaamnbminmcbpaaDoor.Hs Go.Proofs.YtaamnbminmcbpaaDoor.Hf Go.Proofs.YtaamnbminmcbpaaDoor.Hz Go.Proofs.YtaamnbminmcbpaaDoor.Ha Go.Proofs.YtaamnbminmcbpaaDoor.Hc Go.Proofs.YtaamnbminmcbpaaDoor.Hw Go.Proofs.YtaamnbminmcbpaaDoor.Ln Go.Proofs.YtaamnbminmcbpaaDoor.Bp Go.Proofs.YtaamnbminmcbpaaDoor.Hx Go.Proofs.YtaamnbminmcbpaaDoor.Hn Go.Proofs.YtaamnbminmcbpaaDoor.Hk Go.Proofs.YtaamnbminmcbpaaDoor.Hu Go.Proofs.YtaamnbminmcbpaaDoor.Hb Go.Proofs.YtaamnbminmcbpaaDoor.Ky
set_option linter.unusedVariables false

theorem own : ownKnob Tryd.prog.godebug = none := by kernel_rfl
theorem laidOut : laidOutB Tryd.prog = true := by kernel_rfl

/-- What the walk is told of a slice of integers that came in: it is nil, or a row of cells that hold zs, each of which fits. -/
def IsRow (k : IntKind) (w : World) (a : Option Addr) (len cap : Nat) (zs : List Int) : Prop :=
  (a = none ∧ len = 0 ∧ cap = 0 ∧ zs = []) ∨
  ∃ x, a = some x ∧ len ≤ cap ∧ cap ≤ maxLen ∧ zs.length = cap ∧ (∀ i, i < zs.length → w.cell? (x.add i) = some (.int k (zs.getD i 0))) ∧ ∀ n ∈ zs, (Lit.int k n).wf = true
/-- And of a slice of such slices: it is nil, or each of its cells holds one. -/
def IsRows (k : IntKind) (w : World) (a : Option Addr) (len cap : Nat) : Prop :=
  (a = none ∧ len = 0 ∧ cap = 0) ∨
  ∃ x, a = some x ∧ len ≤ cap ∧ cap ≤ maxLen ∧ ∀ i, i < len → ∃ b n c zs, w.cell? (x.add i) = some (.slice b n c) ∧ IsRow k w b n c zs
/-- And of a slice of structs of two integers. -/
def IsPairs (k0 k1 : IntKind) (w : World) (a : Option Addr) (len cap : Nat) (zs : List (Int × Int)) : Prop :=
  (a = none ∧ len = 0 ∧ cap = 0 ∧ zs = []) ∨
  ∃ x, a = some x ∧ len ≤ cap ∧ cap ≤ maxLen ∧ zs.length = cap ∧ ∀ i, i < zs.length → w.cell? (x.add (i * 2)) = some (.int k0 (zs.getD i (0, 0)).1) ∧ w.cell? (x.add (i * 2 + 1)) = some (.int k1 (zs.getD i (0, 0)).2) ∧ (Lit.int k0 (zs.getD i (0, 0)).1).wf = true ∧ (Lit.int k1 (zs.getD i (0, 0)).2).wf = true
section
variable {H : Type} {enc : TypeId × Value → H} {W : World}
theorem open_pairs {t e : TypeId} {k0 k1 : IntKind} {f0 f1 : Field} {fuel : Nat} {a : Option Addr} {len cap : Nat} {x : DataW H × List MemPlace} (ht : Tryd.prog.underlying t = some (.slice e)) (he : Tryd.prog.underlying e = some (.struct #[f0, f1])) (h0 : Tryd.prog.underlying f0.type = some (.int k0)) (h1 : Tryd.prog.underlying f1.type = some (.int k1))
    (ce : Tryd.prog.cellsOf e = 2) (o0 : f0.offset = 0) (o1 : f1.offset = 1) (c0 : Tryd.prog.cellsOf f0.type = 1) (c1 : Tryd.prog.cellsOf f1.type = 1)
    (hf : DataW.trod enc Tryd.prog W 0 (fun _ => true) true fuel t (Value.slice a len cap).cells.toList = some x) : ∃ zs, IsPairs k0 k1 W a len cap zs := by
  rcases open_slice_pairs ht he ce o0 o1 c0 c1 hf with ⟨hcs, _⟩ | ⟨y, l, c, m, n, V0, V1, D0, D1, P0, P1, hcs, _, hl, hm, hmm, _, hi⟩
  · simp [Value.cells] at hcs
    obtain ⟨rfl, rfl, rfl⟩ := hcs
    exact ⟨[], .inl ⟨rfl, rfl, rfl, rfl⟩⟩
  · simp [Value.cells] at hcs
    obtain ⟨rfl, rfl, rfl⟩ := hcs
    simp only [if_true] at hmm
    refine ⟨(List.range cap).map fun i => (intOf (V0 i), intOf (V1 i)), .inr ⟨y, rfl, hl, hm, by simp, fun i hil => ?_⟩⟩
    have hic : i < cap := by simpa using hil
    obtain ⟨g0, g1, g2, g3⟩ := hi i (by omega)
    obtain ⟨n0, e0, _, w0⟩ := DataW.trod_int h0 g2
    obtain ⟨n1, e1, _, w1⟩ := DataW.trod_int h1 g3
    injection e0 with e0
    injection e1 with e1
    rw [e0] at g0
    rw [e1] at g1
    have hz : ((List.range cap).map fun i => (intOf (V0 i), intOf (V1 i))).getD i (0, 0) = (n0, n1) := by
      simp [List.getD_eq_getElem?_getD, hic, e0, e1, intOf]
    rw [hz]
    exact ⟨g0, g1, w0, w1⟩
theorem open_row {t e : TypeId} {k : IntKind} {fuel : Nat} {a : Option Addr} {len cap : Nat} {x : DataW H × List MemPlace} (ht : Tryd.prog.underlying t = some (.slice e)) (he : Tryd.prog.underlying e = some (.int k)) (h1 : Tryd.prog.cellsOf e = 1)
    (hf : DataW.trod enc Tryd.prog W 0 (fun _ => true) true fuel t (Value.slice a len cap).cells.toList = some x) : ∃ zs, IsRow k W a len cap zs := by
  rcases open_ints ht he h1 hf with ⟨hcs, _⟩ | ⟨x, l, c, zs, hcs, _, hl, hm, hz, _, hcell, hwz⟩
  · simp [Value.cells] at hcs
    obtain ⟨rfl, rfl, rfl⟩ := hcs
    exact ⟨[], .inl ⟨rfl, rfl, rfl, rfl⟩⟩
  · simp [Value.cells] at hcs
    obtain ⟨rfl, rfl, rfl⟩ := hcs
    exact ⟨zs, .inr ⟨_, rfl, hl, hm, by simpa using hz, hcell, hwz⟩⟩
theorem open_rows {t e g : TypeId} {k : IntKind} {fuel : Nat} {a : Option Addr} {len cap : Nat} {x : DataW H × List MemPlace} (ht : Tryd.prog.underlying t = some (.slice e)) (he : Tryd.prog.underlying e = some (.slice g)) (hg : Tryd.prog.underlying g = some (.int k)) (h1 : Tryd.prog.cellsOf e = 1) (h2 : Tryd.prog.cellsOf g = 1)
    (hf : DataW.trod enc Tryd.prog W 0 (fun _ => true) true fuel t (Value.slice a len cap).cells.toList = some x) : IsRows k W a len cap := by
  rcases open_slice ht hf with ⟨hcs, _⟩ | ⟨x, l, c, m, n, D, Pl, hcs, _, hl, hm, hmm, _, hi⟩
  · simp [Value.cells] at hcs
    obtain ⟨rfl, rfl, rfl⟩ := hcs
    exact .inl ⟨rfl, rfl, rfl⟩
  · simp [Value.cells] at hcs
    obtain ⟨rfl, rfl, rfl⟩ := hcs
    refine .inr ⟨x, rfl, hl, hm, fun i hil => ?_⟩
    simp only [if_true] at hmm
    obtain ⟨cs, hc, htr⟩ := hi i (by omega)
    rw [h1, Nat.mul_one] at hc
    obtain ⟨_, hlen, hat⟩ := World.cells?_some hc
    have h0 := hat 0 (by omega)
    have ha0 : (x.add i).add 0 = x.add i := by rw [Go.Deep.add_add]; rfl
    rw [ha0] at h0
    rcases open_ints he hg h2 htr with ⟨hcs, _⟩ | ⟨y, l', c', zs, hcs, _, hl', hm', hz, _, hcell, hwz⟩
    · subst hcs
      exact ⟨none, 0, 0, [], by simpa using h0, .inl ⟨rfl, rfl, rfl, rfl⟩⟩
    · subst hcs
      exact ⟨some y, l', c', zs, by simpa using h0, .inr ⟨y, rfl, hl', hm', by simpa using hz, hcell, hwz⟩⟩
end
theorem gT : Tryd.prog.globalNamed "internal/strconv.uint64pow10" = some 0 := by kernel_rfl
theorem gTT : (Tryd.prog.globals[0]?).map (·.type) = some 118 := by kernel_rfl
theorem door_met (os : Os) (args : Array Value) : laidMetH Tryd.prog Rows.huffAnyRow.laid ((World.doorLaid Tryd.prog 400 os).forCall (fun _ _ => 0) ⟨#[], args, []⟩).memory :=
  laidMetH_of_parts3 (fuel := 8) (laidMet_of_run' 8 (by kernel_rfl) (by kernel_rfl)) (by kernel_rfl) (by kernel_rfl)
theorem of_laid {W : World} (h : laidMetH Tryd.prog Rows.huffAnyRow.laid W) : Lib.TabIs Tryd.prog W "internal/strconv.uint64pow10" .u64 Lib.pow10Tab := by
  rw [MakeChecks.laidMetH_plain _ _ _ (by kernel_rfl)] at h
  exact Lib.tabIs_of_head gT gTT Tryd.underlying118 Tryd.underlying42 (by kernel_rfl) (by kernel_rfl) (h.tail.tail : laidMet Tryd.prog (("internal/strconv.uint64pow10", Lib.tabData .u64 Lib.pow10Tab) :: []) W)
def nearL (zs : List Int) (d : Nat) : List G := (List.range d).map fun i : Nat => (5 * (i : Int) - 20, 1 + zs.getD i 0 % 7)
theorem nearL_len (zs : List Int) (d : Nat) : (nearL zs d).length = d := by simp [nearL]
theorem nearL_next (zs : List Int) (d : Nat) : nearL zs (d + 1) = nearL zs d ++ [(5 * (d : Int) - 20, 1 + zs.getD d 0 % 7)] := by simp [nearL, List.range_succ]
theorem gvs_app (a b : List G) : gvs (a ++ b) = gvs a ++ gvs b := by simp [gvs]
theorem ent_info' : (Tryd.prog.info? 26).map (fun i => (i.zero, i.size, i.bytes)) = some (some (.agg #[.int .i64 0, .int .i64 0]), 2, 16) := by kernel_rfl
theorem ecell_two (w : World) (x y : Value) (t : TypeId) : ∀ (j : Nat) (u : Value), [x, y][j]? = some u → (w.alloc (.cells #[x, y] t)).cell? ((⟨w.heap.size, 0, none⟩ : Addr).add j) = some u := by
  intro j u hu
  rw [add_none, (Blk.new w t #[x, y]).cell]
  simpa using hu
theorem own_row {w : World} {base : Nat} {A : Option Addr} {n c : Nat} {L : List G} (h : w.ownsRow base 26 2 (.slice A n c) n (gvs L)) (hn : L.length = n) : RowAt w A (gvs L) := by
  rcases h.2 with ⟨hv, h0⟩ | ⟨g, cap, cur, hv, _, hh, _⟩
  · exact .inl (List.eq_nil_of_length_eq_zero (by rw [gvs_len]; omega))
  · injection hv with hA
    subst hA
    refine .inr ⟨g, 0, rfl, (Array.getElem?_eq_some_iff.1 hh).1, fun i hi => ?_⟩
    have := h.cells (g := g) rfl i _ (List.getElem?_eq_getElem hi)
    rw [add_none] at this
    rw [this, List.getElem?_eq_getElem hi]
/-- The first thing that is wrong with the first d. -/
def fe (L : List G) : Nat → Int
  | 0 => 0
  | d + 1 => if fe L d ≠ 0 then fe L d else errAt L d
def wAt (L : List G) (n d : Nat) : Int := if n < 1 ∨ 256 < n then 7 else fe L d
theorem fe_stay {L : List G} {d : Nat} (h : fe L d ≠ 0) : ∀ {e : Nat}, d ≤ e → fe L e = fe L d
  | 0, he => by obtain rfl : d = 0 := by omega
                rfl
  | e + 1, he => by
    by_cases hd : d = e + 1
    · subst hd; rfl
    · have ih := fe_stay h (e := e) (by omega)
      rw [fe, ih, if_pos h]
theorem wAt_stay {L : List G} {n d : Nat} (h : wAt L n d ≠ 0) {e : Nat} (he : d ≤ e) : wAt L n e = wAt L n d := by
  unfold wAt at h ⊢
  split
  · rfl
  · next hn =>
    rw [if_neg hn] at h
    exact fe_stay h he
theorem wAt_next {L : List G} {n d : Nat} (h : wAt L n d = 0) : wAt L n (d + 1) = errAt L d := by
  unfold wAt at h ⊢
  split
  · next hn => rw [if_pos hn] at h; omega
  · next hn =>
    rw [if_neg hn] at h
    rw [fe, if_neg (by simpa using h)]
theorem fe_zero {L : List G} : ∀ {d : Nat}, fe L d = 0 → ∀ i, i < d → errAt L i = 0
  | 0, _, i, hi => by omega
  | d + 1, h, i, hi => by
    rw [fe] at h
    split at h
    · next h1 => exact absurd h h1
    · next h1 =>
      by_cases hd : i = d
      · subst hd; exact h
      · exact fe_zero (L := L) (d := d) (by simpa using h1) i (by omega)
theorem fe_none {L : List G} : ∀ {d : Nat}, (∀ i, i < d → errAt L i = 0) → fe L d = 0
  | 0, _ => rfl
  | d + 1, h => by
    have h1 := fe_none (L := L) (d := d) fun i hi => h i (by omega)
    rw [fe, if_neg (by simpa using h1)]
    exact h d (by omega)
theorem fe_first {L : List G} {i d : Nat} (h0 : ∀ j, j < i → errAt L j = 0) (h1 : errAt L i ≠ 0) (hd : i < d) : fe L d = errAt L i := by
  have h2 : fe L (i + 1) = errAt L i := by rw [fe, fe_none h0, if_neg (by simp)]
  rw [fe_stay (d := i + 1) (by rw [h2]; exact h1) hd, h2]
theorem wAt_zero {L : List G} {n : Nat} (h : wAt L n n = 0) : (1 ≤ n ∧ n ≤ 256) ∧ ∀ i, i < n → errAt L i = 0 := by
  unfold wAt at h
  split at h
  · omega
  · next hn => exact ⟨by omega, fe_zero h⟩
theorem new_bad {w w' : World} {L : List G} {n : Nat} {k : Int} {r : Ending} (hn : L.length = n) (hk : wAt L n n = k) (h0 : k ≠ 0) (h : NewAns w w' L r) : r = .returned (.tuple #[.pointer none, .int .i64 k]) := by
  subst hn
  rcases h with ⟨hb, h⟩ | ⟨hb, i, hi, h1, h2, h⟩ | ⟨hb, h1, _, h⟩ | ⟨hb, h1, _, _⟩
  · rw [h, ← hk, wAt, if_pos (by omega)]
  · rw [h, ← hk, wAt, if_neg (by omega), fe_first h1 h2 hi]
  · exact absurd (by rw [← hk, wAt, if_neg (by omega), fe_none h1]) h0
  · exact absurd (by rw [← hk, wAt, if_neg (by omega), fe_none h1]) h0
theorem new_far {w w' : World} {L : List G} {n : Nat} {r : Ending} (hn : L.length = n) (hk : wAt L n n = 0) (hp : 2 ^ 20 < posOf (nats' L)) (h : NewAns w w' L r) : r = .returned (.tuple #[.pointer none, .int .i64 13]) := by
  subst hn
  obtain ⟨h1, h2⟩ := wAt_zero hk
  rcases h with ⟨hb, _⟩ | ⟨_, i, hi, _, h3, _⟩ | ⟨_, _, _, h⟩ | ⟨_, _, h3, _⟩
  · omega
  · exact absurd (h2 i hi) h3
  · exact h
  · omega
theorem new_good {w w' : World} {L : List G} {n : Nat} {r : Ending} (hn : L.length = n) (hk : wAt L n n = 0) (hp : posOf (nats' L) ≤ 2 ^ 20) (h : NewAns w w' L r) : ∃ p, r = .returned (.tuple #[.pointer (some ⟨p, 0, none⟩), .int .i64 0]) ∧ IsCode w.heap.size w' p (wordsOf (nats' L)) := by
  subst hn
  obtain ⟨h1, h2⟩ := wAt_zero hk
  rcases h with ⟨hb, _⟩ | ⟨_, i, hi, _, h3, _⟩ | ⟨_, _, h3, _⟩ | ⟨_, _, _, h⟩
  · omega
  · exact absurd (h2 i hi) h3
  · omega
  · exact h
/-- A row's value out of what tells it. -/
structure Sl where
  A : Option Addr
  n : Nat
  c : Nat
def mkS (t : Sl) : Value := .slice t.A t.n t.c
theorem words_shape {w : World} {bm : Nat} {T : List (Int × Nat × Nat)} {M : List (Lit × Value)} (h : Fa (Wrd w bm) T M) : ∀ p ∈ M, ∃ c, p.2 = mkS c := by
  intro p hp
  obtain ⟨t, _, _, A, c, e, _⟩ := h.mem p hp
  exact ⟨⟨A, t.2.1, c⟩, e⟩
/-- One word of the map. -/
theorem word_of {w : World} {bm : Nat} {L : List (Int × Nat)} {M : List (Lit × Value)} (h : Fa (Wrd w bm) (wordsOf L) M) {x : Int} {c : Sl} (hm : (Lit.int .i64 x, mkS c) ∈ M) :
    ∃ A z v k, c = ⟨A, z, k⟩ ∧ z ≤ k ∧ (x, z, v) ∈ wordsOf L ∧ Lies w A (Bq.ib (tb v z)) := by
  obtain ⟨t, ht, e1, A, k, e2, h3, h4, h5⟩ := h.mem _ hm
  obtain ⟨x', z, v⟩ := t
  simp only at e1 e2 h3 h4
  injection e1 with _ e1
  subst e1
  obtain ⟨c1, c2, c3⟩ := c
  simp only [mkS] at e2
  injection e2 with e2 e3 e4
  subst e2 e3 e4
  exact ⟨_, _, v, _, rfl, h3, ht, h4⟩
theorem lies_far {S : Nat → Prop} {w w1 : World} {A : Option Addr} {xs : List Int} (h : Lies w A xs) (k : Keeps S w w1) (hn : ∀ b o, A = some ⟨b, o, none⟩ → xs ≠ [] → ¬ S b) : Lies w1 A xs := by
  by_cases hx : xs = []
  · exact .inl hx
  · exact h.keeps k (fun b o hb => hn b o hb hx)
theorem find_nd : ∀ {W : List (Int × Nat × Nat)}, (W.map (·.1)).Nodup → ∀ t ∈ W, W.find? (fun s => s.1 == t.1) = some t
  | [], _, t, h => by cases h
  | a :: W, hn, t, h => by
    simp only [List.map_cons, List.nodup_cons] at hn
    rw [List.find?_cons]
    rcases List.mem_cons.1 h with rfl | h1
    · simp
    · have hne : (a.1 == t.1) = false := by
        simp only [beq_eq_false_iff_ne, ne_eq]
        exact fun e => hn.1 (e ▸ List.mem_map_of_mem h1)
      rw [hne]
      exact find_nd hn.2 t h1
theorem found_is {L : List (Int × Nat)} (h : ∀ p ∈ L, p.2 ≤ 20) (hd : (L.map (·.1)).Nodup) {x : Int} {z v : Nat} (hm : (x, z, v) ∈ wordsOf L) : found (wordsOf L) x = some (z, v) := by
  have h2 : (wordsOf L).map (·.1) = (line L 21).map (·.1) := by
    conv => rhs; rw [← asg_keys 0 (line L 21)]
    rw [List.map_map]
    rfl
  have hn : ((wordsOf L).map (·.1)).Nodup := by rw [h2]; exact ((line_perm h).map _).nodup_iff.2 hd
  have := find_nd hn _ hm
  simp only at this
  rw [found, this]
  rfl
set_option maxHeartbeats 40000000 in
theorem take_next {l : List G} {i : Nat} (h : i < l.length) : l.take (i + 1) = l.take i ++ [l.getD i (0, 0)] := by
  rw [List.take_add_one, List.getElem?_eq_getElem h, List.getD_eq_getElem?_getD, List.getElem?_eq_getElem h]
  rfl
theorem nearL_fits (zs : List Int) {d : Nat} (hd : d ≤ 40) : ∀ x ∈ nearL zs d, Fits x := by
  intro x hx
  simp only [nearL, List.mem_map, List.mem_range] at hx
  obtain ⟨i, hi, rfl⟩ := hx
  unfold Fits
  simp only
  omega
theorem Fa.mem2 {α β : Type} {R : α → β → Prop} : ∀ {l : List α} {m : List β}, Fa R l m → ∀ a ∈ l, ∃ b ∈ m, R a b
  | [], _, _, a, h => by cases h
  | a :: l, [], hf, x, h => by cases hf
  | a :: l, b :: m, hf, x, h => by
    obtain ⟨h1, h2⟩ := hf
    rcases List.mem_cons.1 h with rfl | h
    · exact ⟨b, by simp, h1⟩
    · obtain ⟨y, hy, h3⟩ := Fa.mem2 h2 x h
      exact ⟨y, by simp [hy], h3⟩
theorem zero_bytes (w : World) : (zeroValue 22).run Tryd.prog w = .ok (.slice none 0 0) w := by kernel_rfl
theorem word_bits {s : BS} {z v : Nat} (h : NextIs s z v) : piece s.bits s.k z = tb v z := by
  have := (tb_num _ (piece s.bits s.k z) (piece_len (by rw [s.len]; exact h.1)) (piece_bit (ofB_bit _) _ _)).1
  rw [h.2] at this
  exact this.symm
set_option maxHeartbeats 16000000 in
set_option maxRecDepth 100000 in
theorem walk (a0 : Option Addr) (len0 cap0 : Nat) (z0 : List Int) (a1 : Option Addr) (len1 cap1 : Nat) (z1 : List Int) (a2 : Option Addr) (len2 cap2 : Nat) (z2 : List Int) (w : World) (w0 : IsRow .u8 w a0 len0 cap0 z0) (w1 : IsRow .u8 w a1 len1 cap1 z1) (w2 : IsRow .u8 w a2 len2 cap2 z2)
    (htab : Lib.TabIs Tryd.prog w "internal/strconv.uint64pow10" .u64 Lib.pow10Tab) :
    Calls Tryd.prog 3 #[.slice a0 len0 cap0, .slice a1 len1 cap1, .slice a2 len2 cap2] w fun e w' => e = .returned (.bool true) ∧ Below w.heap.size w w' := by
  have HR := Lib.hid (row_lies w0)
  have HS := Lib.hid (row_at w1)
  have HO := Lib.hid (row_at w2)
  have HTB := Lib.hid (Lib.tabBelow_of_tabIs htab)
  clear w0 w1 w2 htab
  go_enter Tryd.func3, Tryd.ntmps3
  go_wp2_with fail
  refine (awake_ _).mono ?_
  rintro e w1 ⟨rfl, hk1⟩
  have HK1 := Lib.hid hk1
  clear hk1
  by_cases hb0 : 60 < len0
  · have hbd : decide ((60 : Int) < (len0 : Int)) = true := by rw [decide_eq_true_iff]; omega
    clear hb0
    go_wp2
    go_ret
    exact ⟨rfl, HK1.out.below (Nat.le_refl _) (fun _ h => h.elim)⟩
  have hbd : decide ((60 : Int) < (len0 : Int)) = false := by rw [decide_eq_false_iff_not]; omega
  by_cases hb1 : 40 < len1
  · have hbd1 : decide ((40 : Int) < (len1 : Int)) = true := by rw [decide_eq_true_iff]; omega
    clear hb0 hb1
    go_wp2
    go_ret
    exact ⟨rfl, HK1.out.below (Nat.le_refl _) (fun _ h => h.elim)⟩
  have hbd1 : decide ((40 : Int) < (len1 : Int)) = false := by rw [decide_eq_false_iff_not]; omega
  by_cases hb2 : 40 < len2
  · have hbd2 : decide ((40 : Int) < (len2 : Int)) = true := by rw [decide_eq_true_iff]; omega
    clear hb0 hb1 hb2
    go_wp2
    go_ret
    exact ⟨rfl, HK1.out.below (Nat.le_refl _) (fun _ h => h.elim)⟩
  have hbd2 : decide ((40 : Int) < (len2 : Int)) = false := by rw [decide_eq_false_iff_not]; omega
  have hle0 : len0 ≤ 60 := by omega
  have hle1 : len1 ≤ 40 := by omega
  have hle2 : len2 ≤ 40 := by omega
  clear hb0 hb1 hb2
  obtain ⟨i0, hi0, hz0, hz1, hz2⟩ := info_parts ent_info'
  go_wp2_with fail
  go_loopw [7, 47] (fun nv iv' wr => ∃ (d : Nat) (A : Option Addr) (c : Nat), nv = .slice A d c ∧ iv' = .int .i64 (d : Int) ∧ d ≤ len1 ∧ Hid (wr.ownsRow w1.heap.size 26 2 (.slice A d c) d (gvs (nearL z1 d)) ∧ Keeps (fun _ => False) w1 wr)) (fun _ iv' _ => len1 - (intOf iv').toNat)
  case atStart => exact ⟨0, none, 0, rfl, rfl, by omega, Lib.hid ⟨World.ownsRow_nil _ _ _ _, Keeps.refl _ _⟩⟩
  case round =>
    obtain ⟨d, A, c, rfl, rfl, hd, HH⟩ := hrel
    have HOW := Lib.hid HH.out.1
    have HK := Lib.hid HH.out.2
    clear HH
    by_cases hlt : d < len1
    · obtain ⟨ob, oo, x, rfl, hob, hco, hzx, hwk⟩ := HS.out.2 d hlt
      have hco2 : wr.cell? ⟨ob, oo + d, none⟩ = some (.int .u8 x) := ((HK1.out.trans HK.out).cell (p := ⟨ob, oo + d, none⟩) hob id).trans hco
      have hxb : 0 ≤ x ∧ x ≤ 255 := by
        have hm : IntKind.u8.min = 0 ∧ IntKind.u8.max = 255 := by decide
        simp only [Lit.wf, hm.1, hm.2, Bool.and_eq_true, decide_eq_true_eq] at hwk
        omega
      have hzg : z1.getD d 0 = x := by rw [List.getD, hzx]; rfl
      have hrm : Int.tmod x 7 = x % 7 := Int.tmod_eq_emod_of_nonneg (by omega)
      obtain ⟨q, hq⟩ : ∃ q, x % 7 = q := ⟨_, rfl⟩
      rw [hq] at hrm
      have hqb : 0 ≤ q ∧ q < 7 := by omega
      have hw0 : IntKind.u8.wrap q = q := IntWalk.u8_in _ (by omega)
      have hw1 : IntKind.i64.wrap q = q := IntWalk.i64_in _ (by omega)
      have hw2 : IntKind.i64.wrap (1 + q) = 1 + q := IntWalk.i64_in _ (by omega)
      have hw3 : IntKind.i64.wrap (5 * (d : Int)) = 5 * (d : Int) := IntWalk.i64_in _ (by omega)
      have hw4 : IntKind.i64.wrap (5 * (d : Int) - 20) = 5 * (d : Int) - 20 := IntWalk.i64_in _ (by omega)
      have HNX : Hid (gvs (nearL z1 (d + 1)) = gvs (nearL z1 d) ++ [.int .i64 (5 * (d : Int) - 20), .int .i64 (1 + q)]) := by show _ = _; rw [nearL_next, gvs_app, hzg, hq]; rfl
      have HOA := Lib.hid (own_keeps HOW.out ((Keeps.refl (fun _ => False) _).alloc (.cells #[.int .i64 (5 * (d : Int) - 20), .int .i64 (1 + q)] 26)) (fun _ _ => id))
      have HKA := Lib.hid (HK.out.alloc (.cells #[.int .i64 (5 * (d : Int) - 20), .int .i64 (1 + q)] 26))
      have HNW := Lib.hid (ecell_two wr (.int .i64 (5 * (d : Int) - 20)) (.int .i64 (1 + q)) 26)
      have hd0 : (0 : Int) ≤ (d : Int) := by omega
      have hd1 : (d : Int) < (len1 : Int) := by omega
      clear hzg hq hco hzx hwk
      go_wp2_with (
        at_builtin
        refine wpList_append_own_at _ rfl (.tmp 52) (.tmp 61) _ rfl w1.heap.size 26 i0 _ 2 16 Tryd.underlying24 hi0 hz0 hz1 hz2 rfl (by omega) (.slice A d c) d (gvs (nearL z1 d)) rfl
          HOA.out ⟨wr.heap.size, 0, none⟩ 1 1 [.int .i64 (5 * (d : Int) - 20), .int .i64 (1 + q)] rfl rfl HNW.out (by simp [Value.oneCell']) (by simp only [maxLen]; omega) (by omega) HKA.out.size ?_
        intro v1 w5 hown1 hg1 hnil1 hat1
        rw [← HNX.out] at hown1
        have HK5 := Lib.hid (HKA.out.grown hg1 (fun b hb => .inr (HOA.out.lt b hb).1))
        obtain ⟨A1, c1, rfl, _⟩ := own_form hown1
        have HO5 := Lib.hid hown1
        clear hown1 hg1 hnil1 hat1)
      exact ⟨⟨d + 1, A1, c1, rfl, by go_num, by omega, Lib.hid ⟨HO5.out, HK5.out⟩⟩, by simp [intOf]; omega⟩
    · obtain rfl : d = len1 := by omega
      have HR1 := Lib.hid (own_row HOW.out (nearL_len z1 d))
      have HK2 := Lib.hid (HK1.out.trans HK.out)
      clear HOW hlt HK HS HK1 hd
      obtain ⟨w2, hw2⟩ : ∃ w2, w2 = wr := ⟨_, rfl⟩
      subst hw2
      obtain ⟨n1, hn1⟩ : ∃ n1, n1 = d := ⟨_, rfl⟩
      subst hn1
      obtain ⟨cA, hcA⟩ : ∃ cA, cA = c := ⟨_, rfl⟩
      subst hcA
      go_wp2_with fail
      go_loopw [8, 66] (fun nv iv' wr => ∃ (d : Nat) (B : Option Addr) (c : Nat), nv = .slice B d c ∧ iv' = .int .i64 (d : Int) ∧ d ≤ len2 ∧ Hid (wr.ownsRow w2.heap.size 26 2 (.slice B d c) d (gvs (nearL z2 d)) ∧ Keeps (fun _ => False) w2 wr)) (fun _ iv' _ => len2 - (intOf iv').toNat)
      case atStart => exact ⟨0, none, 0, rfl, rfl, by omega, Lib.hid ⟨World.ownsRow_nil _ _ _ _, Keeps.refl _ _⟩⟩
      case round =>
        obtain ⟨d, B, c, rfl, rfl, hd, HH⟩ := hrel
        have HOW := Lib.hid HH.out.1
        have HK := Lib.hid HH.out.2
        clear HH
        by_cases hlt : d < len2
        · obtain ⟨ob, oo, x, rfl, hob, hco, hzx, hwk⟩ := HO.out.2 d hlt
          have hco2 : wr.cell? ⟨ob, oo + d, none⟩ = some (.int .u8 x) := ((HK2.out.trans HK.out).cell (p := ⟨ob, oo + d, none⟩) hob id).trans hco
          have hxb : 0 ≤ x ∧ x ≤ 255 := by
            have hm : IntKind.u8.min = 0 ∧ IntKind.u8.max = 255 := by decide
            simp only [Lit.wf, hm.1, hm.2, Bool.and_eq_true, decide_eq_true_eq] at hwk
            omega
          have hzg : z2.getD d 0 = x := by rw [List.getD, hzx]; rfl
          have hrm : Int.tmod x 7 = x % 7 := Int.tmod_eq_emod_of_nonneg (by omega)
          obtain ⟨q, hq⟩ : ∃ q, x % 7 = q := ⟨_, rfl⟩
          rw [hq] at hrm
          have hqb : 0 ≤ q ∧ q < 7 := by omega
          have hw0 : IntKind.u8.wrap q = q := IntWalk.u8_in _ (by omega)
          have hw1 : IntKind.i64.wrap q = q := IntWalk.i64_in _ (by omega)
          have hw2 : IntKind.i64.wrap (1 + q) = 1 + q := IntWalk.i64_in _ (by omega)
          have hw3 : IntKind.i64.wrap (5 * (d : Int)) = 5 * (d : Int) := IntWalk.i64_in _ (by omega)
          have hw4 : IntKind.i64.wrap (5 * (d : Int) - 20) = 5 * (d : Int) - 20 := IntWalk.i64_in _ (by omega)
          have HNX : Hid (gvs (nearL z2 (d + 1)) = gvs (nearL z2 d) ++ [.int .i64 (5 * (d : Int) - 20), .int .i64 (1 + q)]) := by show _ = _; rw [nearL_next, gvs_app, hzg, hq]; rfl
          have HOA := Lib.hid (own_keeps HOW.out ((Keeps.refl (fun _ => False) _).alloc (.cells #[.int .i64 (5 * (d : Int) - 20), .int .i64 (1 + q)] 26)) (fun _ _ => id))
          have HKA := Lib.hid (HK.out.alloc (.cells #[.int .i64 (5 * (d : Int) - 20), .int .i64 (1 + q)] 26))
          have HNW := Lib.hid (ecell_two wr (.int .i64 (5 * (d : Int) - 20)) (.int .i64 (1 + q)) 26)
          have hd0 : (0 : Int) ≤ (d : Int) := by omega
          have hd1 : (d : Int) < (len2 : Int) := by omega
          clear hzg hq hco hzx hwk
          go_wp2_with (
            at_builtin
            refine wpList_append_own_at _ rfl (.tmp 71) (.tmp 80) _ rfl w2.heap.size 26 i0 _ 2 16 Tryd.underlying24 hi0 hz0 hz1 hz2 rfl (by omega) (.slice B d c) d (gvs (nearL z2 d)) rfl
              HOA.out ⟨wr.heap.size, 0, none⟩ 1 1 [.int .i64 (5 * (d : Int) - 20), .int .i64 (1 + q)] rfl rfl HNW.out (by simp [Value.oneCell']) (by simp only [maxLen]; omega) (by omega) HKA.out.size ?_
            intro v1 w5 hown1 hg1 hnil1 hat1
            rw [← HNX.out] at hown1
            have HK5 := Lib.hid (HKA.out.grown hg1 (fun b hb => .inr (HOA.out.lt b hb).1))
            obtain ⟨B1, c2, rfl, _⟩ := own_form hown1
            have HO5 := Lib.hid hown1
            clear hown1 hg1 hnil1 hat1)
          exact ⟨⟨d + 1, B1, c2, rfl, by go_num, by omega, Lib.hid ⟨HO5.out, HK5.out⟩⟩, by simp [intOf]; omega⟩
        · obtain rfl : d = len2 := by omega
          have HR2 := Lib.hid (own_row HOW.out (nearL_len z2 d))
          have HR1' := Lib.hid (HR1.out.keeps HK.out (fun _ _ _ => id))
          have HK3 := Lib.hid (HK2.out.trans HK.out)
          clear HOW hlt HK HO HK2 HR1 hd hi0 hz0 hz1 hz2
          obtain ⟨w3, hw3⟩ : ∃ w3, w3 = wr := ⟨_, rfl⟩
          subst hw3
          obtain ⟨n2, hn2⟩ : ∃ n2, n2 = d := ⟨_, rfl⟩
          subst hn2
          obtain ⟨L1, hL1⟩ : ∃ L1, nearL z1 n1 = L1 := ⟨_, rfl⟩
          obtain ⟨L2, hL2⟩ : ∃ L2, nearL z2 n2 = L2 := ⟨_, rfl⟩
          have HL1 : Hid (L1.length = n1) := by show _ = _; rw [← hL1]; exact nearL_len z1 n1
          have HL2 : Hid (L2.length = n2) := by show _ = _; rw [← hL2]; exact nearL_len z2 n2
          have HF1 : Hid (∀ x ∈ L1, Fits x) := by show ∀ x ∈ L1, Fits x; rw [← hL1]; exact nearL_fits z1 (by omega)
          have HF2 : Hid (∀ x ∈ L2, Fits x) := by show ∀ x ∈ L2, Fits x; rw [← hL2]; exact nearL_fits z2 (by omega)
          rw [hL1] at HR1'
          rw [hL2] at HR2
          clear hL1 hL2
          go_wp2_with fail
          refine (new_ A n1 cA L1 w3 HR1'.out HL1.out (by omega)).mono ?_
          rintro e w4 ⟨hans, hk4⟩
          have HK4 := Lib.hid (HK3.out.trans hk4)
          obtain ⟨k, hk⟩ : ∃ k, wAt L1 n1 n1 = k := ⟨_, rfl⟩
          by_cases hk0 : k = 0
          case neg =>
            obtain rfl := new_bad HL1.out hk hk0 hans
            have hkb : (k == 0) = false := by simpa using hk0
            clear hans hk4 hk
            go_wp2
            go_ret
            exact ⟨rfl, HK4.out.below (Nat.le_refl _) (fun _ h => h.elim)⟩
          subst hk0
          rcases Nat.lt_or_ge (2 ^ 20) (posOf (nats' L1)) with hp | hp
          · obtain rfl := new_far HL1.out hk hp hans
            clear hans hk4 hk hp
            go_wp2
            go_ret
            exact ⟨rfl, HK4.out.below (Nat.le_refl _) (fun _ h => h.elim)⟩
          obtain ⟨pc, rfl, hcode⟩ := new_good HL1.out hk hp hans
          have HC := Lib.hid hcode
          have HG := Lib.hid (wAt_zero hk)
          have HP := Lib.hid hp
          have HR1 := Lib.hid (HR1'.out.keeps hk4 (fun _ _ _ => id))
          have HR2' := Lib.hid (HR2.out.keeps hk4 (fun _ _ _ => id))
          clear hans hk4 hk hp hcode HR1' HR2 HK3
          go_upto_block 4 with fail
          go_cut [15, 16] from 95 to 112 (fun sv iv' wx => sv = .bool (decide (L1 = L2)) ∧ (∃ j : Nat, iv' = .int .i64 (j : Int)) ∧ Keeps (fun _ => False) w4 wx)
          case first =>
            go_wp2_with fail
            go_loopw [15, 16] (fun sv iv' wx => ∃ (d : Nat) (sb : Bool), sv = .bool sb ∧ iv' = .int .i64 (d : Int) ∧ d ≤ n1 ∧ Hid (sb = decide (n1 = n2 ∧ L1.take d = L2.take d) ∧ Keeps (fun _ => False) w4 wx)) (fun _ iv' _ => n1 - (intOf iv').toNat)
            case atStart =>
              refine ⟨0, _, rfl, rfl, by omega, Lib.hid ⟨?_, Keeps.refl _ _⟩⟩
              rcases Nat.decEq n1 n2 with h | h
              · have : ((n1 : Int) == (n2 : Int)) = false := by simpa using (fun e : (n1 : Int) = n2 => h (by omega))
                rw [this]
                exact (decide_eq_false (fun e => h e.1)).symm
              · have : ((n1 : Int) == (n2 : Int)) = true := by simpa using (by omega : (n1 : Int) = n2)
                rw [this]
                exact (decide_eq_true ⟨h, rfl⟩).symm
            case round =>
              obtain ⟨d, sb, rfl, rfl, hd, HH⟩ := hrel
              have HS := Lib.hid HH.out.1
              have HK := Lib.hid HH.out.2
              clear HH
              cases sb with
              | false =>
                go_wp2_with fail
                go_meet
                case rel =>
                  refine ⟨?_, ⟨_, rfl⟩, HK.out⟩
                  rw [decide_eq_false]
                  rintro rfl
                  have h := of_decide_eq_false HS.out.symm
                  exact h ⟨HL1.out.symm.trans HL2.out, rfl⟩
              | true =>
                by_cases hlt : d < n1
                · obtain ⟨hnn, htk⟩ := of_decide_eq_true HS.out.symm
                  obtain ⟨b1, o1, rfl, _, h10, h11⟩ := g_item (w := wr) (l := L1) (HR1.out.keeps HK.out (fun _ _ _ => id)) (j := d) (by have := HL1.out; omega)
                  obtain ⟨b2, o2, rfl, _, h20, h21⟩ := g_item (w := wr) (l := L2) (HR2'.out.keeps HK.out (fun _ _ _ => id)) (j := d) (by have := HL2.out; omega)
                  have hd1 : (d : Int) < (n1 : Int) := by omega
                  have hd2 : (d : Int) < (n2 : Int) := by omega
                  have hd0 : (0 : Int) ≤ (d : Int) := by omega
                  have HT1 := Lib.hid (take_next (l := L1) (i := d) (by have := HL1.out; omega))
                  have HT2 := Lib.hid (take_next (l := L2) (i := d) (by have := HL2.out; omega))
                  obtain ⟨⟨x, y⟩, hx⟩ : ∃ q, q = L1.getD d (0, 0) := ⟨_, rfl⟩
                  obtain ⟨⟨x', y'⟩, hx'⟩ : ∃ q, q = L2.getD d (0, 0) := ⟨_, rfl⟩
                  rw [← hx] at h10 h11 HT1
                  rw [← hx'] at h20 h21 HT2
                  simp only at h10 h11 h20 h21
                  have HEQ : Hid (decide (n1 = n2 ∧ L1.take (d + 1) = L2.take (d + 1)) = decide (x = x' ∧ y = y')) := by
                    show _ = _
                    rw [HT1.out, HT2.out, htk, decide_eq_decide]
                    simp [hnn]
                  clear hx hx' hnn htk HT1 HT2
                  by_cases ex : x = x'
                  · by_cases ey : y = y'
                    · subst ex
                      subst ey
                      go_wp2_with fail
                      go_big_region
                      all_goals go_wp2
                      all_goals exact ⟨⟨d + 1, _, rfl, by go_num, by omega, Lib.hid ⟨by rw [HEQ.out]; simp, HK.out.drewN 1⟩⟩, by simp [intOf]; omega⟩
                    · subst ex
                      go_wp2_with fail
                      go_big_region
                      all_goals go_wp2
                      all_goals exact ⟨⟨d + 1, _, rfl, by go_num, by omega, Lib.hid ⟨by rw [HEQ.out]; simp [ey], HK.out.drewN 1⟩⟩, by simp [intOf]; omega⟩
                  · go_wp2_with fail
                    go_big_region
                    all_goals go_wp2
                    all_goals exact ⟨⟨d + 1, _, rfl, by go_num, by omega, Lib.hid ⟨by rw [HEQ.out]; simp [ex], HK.out.drewN 1⟩⟩, by simp [intOf]; omega⟩
                · obtain rfl : d = n1 := by omega
                  have hge : ¬ ((d : Int) < (d : Int)) := by omega
                  have HEQ : Hid (L1 = L2) := by
                    show L1 = L2
                    obtain ⟨hnn, htk⟩ := of_decide_eq_true HS.out.symm
                    rwa [List.take_of_length_le (by have := HL1.out; omega), List.take_of_length_le (by have := HL2.out; omega)] at htk
                  clear hlt
                  go_wp2_with fail
                  go_meet
                  case rel =>
                    refine ⟨?_, ⟨_, rfl⟩, HK.out⟩
                    rw [decide_eq_true HEQ.out]
          case rest =>
            obtain ⟨rfl, ⟨j, rfl⟩, hk5⟩ := hcut
            have HK5 := Lib.hid hk5
            clear hk5
            go_wp2_with fail
            refine (new_ B n2 c L2 wc (HR2'.out.keeps HK5.out (fun _ _ _ => id)) HL2.out (by omega)).mono ?_
            rintro e w6 ⟨hans, hk6⟩
            obtain ⟨pv, k2, rfl⟩ : ∃ pv k2, e = .returned (.tuple #[.pointer pv, .int .i64 k2]) := by
              obtain ⟨k, hk⟩ : ∃ k, wAt L2 n2 n2 = k := ⟨_, rfl⟩
              by_cases hk0 : k = 0
              · subst hk0
                rcases Nat.lt_or_ge (2 ^ 20) (posOf (nats' L2)) with hp | hp
                · exact ⟨_, _, new_far HL2.out hk hp hans⟩
                · obtain ⟨p, h, _⟩ := new_good HL2.out hk hp hans
                  exact ⟨_, _, h⟩
              · exact ⟨_, _, new_bad HL2.out hk hk0 hans⟩
            have HK6 := Lib.hid (HK5.out.trans hk6)
            clear hans hk6 HK5
            go_upto_region 25 with fail
            go_cut [128] from 118 to 128 (fun bv wx => bv = .bool false ∧ Keeps (fun _ => False) w4 wx)
            case first =>
              by_cases hk2 : k2 = 0
              · subst hk2
                have HRA := Lib.hid (HR1.out.keeps HK6.out (fun _ _ _ => id))
                have HRB := Lib.hid (HR2'.out.keeps HK6.out (fun _ _ _ => id))
                go_wp2_with fail
                refine (key_ A n1 cA L1 w6 HRA.out HL1.out (by omega) HF1.out (HTB.out w6 ((HK4.out.trans HK6.out).below (Nat.le_refl _) (fun _ h => h.elim)))).mono ?_
                rintro e w7 ⟨rfl, hb7⟩
                have HK7 := Lib.hid (HK6.out.trans (Keeps.of_below hb7))
                have HRB7 := Lib.hid (HRB.out.keeps (Keeps.of_below (S := fun _ => False) hb7) (fun _ _ _ => id))
                clear hb7
                go_wp2_with fail
                refine (key_ B n2 c L2 w7 HRB7.out HL2.out (by omega) HF2.out (HTB.out w7 ((HK4.out.trans HK7.out).below (Nat.le_refl _) (fun _ h => h.elim)))).mono ?_
                rintro e w8 ⟨rfl, hb8⟩
                have HK8 := Lib.hid (HK7.out.trans (Keeps.of_below hb8))
                clear hb8
                go_wp2_with fail
                go_meet
                case rel =>
                  refine ⟨?_, HK8.out⟩
                  by_cases h : L1 = L2
                  · subst h
                    simp
                  · have h2 : keyT L1 ≠ keyT L2 := fun e => h (key_inj e)
                    simp [h, h2]
              · have hkb : (k2 == 0) = false := by simpa using hk2
                go_wp2_with fail
                go_meet
                case rel => exact ⟨rfl, HK6.out⟩
            case rest =>
              obtain ⟨rfl, hk7⟩ := hcut
              have HK7 := Lib.hid hk7
              clear hk7 HK6
              go_wp2_with fail
              have HRT := Lib.hid (right_of (L := L1) (by rw [HL1.out]; exact HG.out.2))
              have HRC := Lib.hid (HR1.out.keeps HK7.out (fun _ _ _ => id))
              have HEN : Hid (EntsAt wc A (nats' L1)) := by
                show RowAt _ _ _
                rw [← gvs_ints, HRT.out.ints]
                exact HRC.out
              have HNL : Hid ((nats' L1).length = n1) := by show _ = _; rw [← HL1.out]; simp [nats']
              refine (words_ A n1 cA (nats' L1) wc HEN.out HNL.out (by omega) HRT.out.sizes (fun p hp => wf_of (by have := HRT.out.nums p hp; omega)) HRT.out.keys).mono ?_
              rintro e w9 ⟨hk9, ⟨h, _⟩ | ⟨_, bm, rfl, hbm, M, hM, hF⟩⟩
              · exact absurd HP.out (by omega)
              obtain ⟨Ls, hLs⟩ : ∃ Ls, nats' L1 = Ls := ⟨_, rfl⟩
              have HLz : Hid (∀ p ∈ Ls, p.2 ≤ 20) := by rw [← hLs]; exact HRT.out.sizes
              have HLk : Hid ((Ls.map (·.1)).Nodup) := by show List.Nodup _; rw [← hLs]; exact HRT.out.keys
              have HLn : Hid (∀ p ∈ Ls, -2147483647 ≤ p.1 ∧ p.1 ≤ 2147483647) := by rw [← hLs]; exact HRT.out.nums
              rw [hLs] at HC HP hF
              have HFN : Hid (Fine (wordsOf Ls)) := fine_words HLz.out HP.out
              have HC9 := Lib.hid (HC.out.keeps (HK7.out.trans hk9) (fun _ _ _ => id))
              have HM9 := Lib.hid hM
              have HF9 := Lib.hid hF
              have HK9 := Lib.hid (HK4.out.trans (HK7.out.trans hk9))
              obtain ⟨bs, hbs⟩ : ∃ bs, z0.take len0 = bs := ⟨_, rfl⟩
              have HBL : Hid (bs.length = len0) := by rw [← hbs]; exact HR.out.1
              have HBB : Hid (∀ x ∈ bs, 0 ≤ x ∧ x < 256) := by rw [← hbs]; exact HR.out.2.2.2
              have HLW : Hid (Lies w a0 bs) := by rw [← hbs]; exact HR.out.2.2.1
              have HLY := Lib.hid (HLW.out.keeps HK9.out (fun _ _ _ => id))
              clear hk9 hM hF hbm hLs HEN HNL HRT HRC HR1 HK7 HK4 HC HR hbs HG HL1 HL2 HF1 HF2 HR2'
              obtain ⟨cb, hcb⟩ : ∃ cb, w3.heap.size = cb := ⟨_, rfl⟩
              rw [hcb] at HC9
              clear hcb
              go_wp2_with fail
              refine (read_n a0 len0 cap0 bs w9 HBL.out HLY.out (by omega) HBB.out).mono ?_
              rintro e w10 ⟨rg, rfl, hr10, hk10⟩
              have HR10 := Lib.hid hr10
              have HC10 := Lib.hid (HC9.out.keeps hk10 (fun _ _ _ => id))
              have HK10 := Lib.hid hk10
              have HL10 := Lib.hid (HLY.out.keeps hk10 (fun _ _ _ => id))
              clear hr10 hk10 HC9 HLY
              go_wp2_with fail
              refine (Bq.of_ a0 len0 cap0 bs w10 HBL.out HL10.out (by omega) HBB.out).mono ?_
              rintro e w11 ⟨AA, cAA, rfl, hv11, hk11⟩
              have HR11 := Lib.hid (HR10.out.keeps hk11 (fun _ _ => id))
              have HC11 := Lib.hid (HC10.out.keeps hk11 (fun _ _ _ => id))
              have HK11 := Lib.hid (HK10.out.trans hk11)
              have HLA := Lib.hid (Lies.of_own hv11)
              have HLC : Hid (8 * len0 ≤ cAA) := own_cap hv11
              have HAA : Hid (∀ b o, AA = some ⟨b, o, none⟩ → b ≠ rg) := by
                intro b o hA
                have h1 := HR10.out.lt
                have h2 := (hv11.lt b (by rw [hA]; rfl)).1
                omega
              have HRG : Hid (w9.heap.size ≤ rg) := HR10.out.1
              obtain ⟨m8, hm8⟩ : ∃ m8, 8 * len0 = m8 := ⟨_, rfl⟩
              have hm8v : ((8 * len0 : Nat) : Int) = (m8 : Int) := by omega
              rw [hm8] at HLC ⊢
              have HM8 := Lib.hid hm8
              clear hv11 hk11 HR10 HC10 HK10 HL10 hm8 hm8v
              go_upto_block 6 with fail
              go_cut [22, 23, 24] from 135 to 169 (fun _ _ _ wx => Keeps (fun _ => False) w wx)
              case first =>
                go_wp2_with fail
                go_loopw [22, 135] (fun atv iv' wr => ∃ (d k : Nat), atv = .int .i64 (k : Int) ∧ iv' = .int .i64 (d : Int) ∧ d ≤ 500 ∧ Hid (IsBr w9.heap.size rg ⟨bs, k, false⟩ wr ∧ IsCode cb wr pc (wordsOf Ls) ∧ Lies wr AA (Bq.ib (ofB (bs.map Int.toNat))) ∧ Keeps (fun _ => False) w9 wr)) (fun _ iv' _ => 500 - (intOf iv').toNat)
                case atStart => exact ⟨0, 0, rfl, rfl, by omega, Lib.hid ⟨HR11.out, HC11.out, HLA.out, HK11.out⟩⟩
                case round =>
                  clear HR11 HC11 HLA HK11
                  obtain ⟨d, k, rfl, rfl, hd, HH⟩ := hrel
                  have HRR := Lib.hid HH.out.1
                  have HCC := Lib.hid HH.out.2.1
                  have HLL := Lib.hid HH.out.2.2.1
                  have HKK := Lib.hid HH.out.2.2.2
                  clear HH
                  by_cases hlt : d < 500
                  · have hd1 : (d : Int) < 500 := by omega
                    have hkb : k ≤ 480 := by have h1 := HRR.out.2.1.1; have h2 := HBL.out; simp only at h1; omega
                    have HTK := Lib.hid (take_ cb pc (wordsOf Ls) w9.heap.size rg _ wr HCC.out HFN.out HRR.out)
                    go_wp2_with fail
                    refine HTK.out.mono ?_
                    rintro r1 w12 ⟨x, s', rfl, hans, hr12, hc12, hk12⟩
                    have HK12 := Lib.hid (keeps_low HKK.out hk12 (fun y hy => by rw [hy]; exact HRG.out))
                    have HL12 := Lib.hid (HLL.out.keeps hk12 (fun b o hA => HAA.out b o hA))
                    have HR12 := Lib.hid hr12
                    have HC12 := Lib.hid hc12
                    clear HTK hr12 hc12 hk12 HRR HCC HLL HKK
                    rcases hans with ⟨z, v, hmem, _, hnext, hs'⟩ | ⟨_, rfl, k', hs'⟩
                    · subst hs'
                      have HEN := Lib.hid (ended_q rg _ false w9.heap.size w12 HR12.out rfl)
                      obtain ⟨q, hq, hq1, WA, wc, hq2, hq3, hq4, hq5⟩ := Fa.mem2 HF9.out _ hmem
                      simp only at hq1 hq2 hq3 hq4
                      have hxl : x ∈ Ls.map (·.1) := by
                        have h2 : (wordsOf Ls).map (·.1) = (line Ls 21).map (·.1) := by
                          conv => rhs; rw [← asg_keys 0 (line Ls 21)]
                          rw [List.map_map]
                          rfl
                        have h1 : x ∈ (wordsOf Ls).map (·.1) := List.mem_map.2 ⟨_, hmem, rfl⟩
                        rw [h2] at h1
                        exact ((line_perm HLz.out).map _).subset h1
                      have hxw : (Lit.int .i64 x).wf = true := by
                        rw [List.mem_map] at hxl
                        obtain ⟨y, hy, e⟩ := hxl
                        have := HLn.out y hy
                        rw [e] at this
                        exact wf_of (by omega)
                      have hlook := ((IsM.look w12 (HM9.out.keeps HK12.out id) int_key Tryd.underlying32 (zero_bytes w12) (key := .int .i64 x) (kl := .int .i64 x) (Go.Maps.keyOf_int_mk Tryd.underlying3 hxw)).1 q.2 (by rw [← hq1]; exact hq)).1
                      rw [hq2] at hlook
                      have hpb := word_bits hnext
                      obtain ⟨hnl, _⟩ := hnext
                      simp only at hnl
                      have hz20 := (HFN.out _ hmem).2
                      simp only at hz20
                      have hbl := HBL.out
                      have hm8 := HM8.out
                      obtain ⟨sx, hsx⟩ : ∃ sx, strOfNums (Bq.ib (tb v z)) = sx := ⟨_, rfl⟩
                      have hw1 : Lies w12 WA (Bq.ib (tb v z)) := hq4.keeps HK12.out (fun _ _ _ => id)
                      have hw2 : Lies w12 (cutAt AA cAA k) (Bq.ib (tb v z)) := by
                        have h1 := HL12.out.cutAt cAA k z (by rw [Bq.of_len, List.length_map]; have := HLC.out; omega) (by rw [Bq.of_len, List.length_map]; omega)
                        have h2 : ((Bq.ib (ofB (bs.map Int.toNat))).drop k).take z = Bq.ib (tb v z) := by
                          rw [← hpb]
                          simp only [Bq.ib, piece, BS.bits, List.map_drop, List.map_take]
                        rw [h2] at h1
                        exact h1
                      have hcut : ∀ w, (Instr.slice 22 (.slice AA m8 cAA) (some (.int .i64 (k : Int))) (some (.int .i64 ((k : Int) + (z : Int)))) none).run Tryd.prog w = .ok (.slice (cutAt AA cAA k) z (cAA - k)) w :=
                        fun w => run_cut 22 5 AA m8 cAA k z .i64 .i64 Tryd.underlying22 size_u8 (by have := HLC.out; omega) w
                      obtain ⟨CA, hCA⟩ : ∃ CA, cutAt AA cAA k = CA := ⟨_, rfl⟩
                      obtain ⟨cC, hcC⟩ : ∃ cC, cAA - k = cC := ⟨_, rfl⟩
                      rw [hCA] at hw2
                      rw [hCA, hcC] at hcut
                      have hcv1 : ∀ q, (convert 22 9 (.slice CA z cC)).run Tryd.prog (w12.drewN q) = .ok (.string sx) (w12.drewN q) := fun q => by
                        rw [← hsx]
                        exact (hw2.keeps ((Keeps.refl (fun _ => False) w12).drewN q) (fun _ _ _ => id)).str_n z (by rw [Bq.ib_len, tb_len]) 22 9 5 cC Tryd.underlying22 Tryd.underlying5 Tryd.underlying9
                      have hcv2 : ∀ q, (convert 22 9 (.slice WA z wc)).run Tryd.prog (w12.drewN q) = .ok (.string sx) (w12.drewN q) := fun q => by
                        rw [← hsx]
                        exact (hw1.keeps ((Keeps.refl (fun _ => False) w12).drewN q) (fun _ _ _ => id)).str_n z (by rw [Bq.ib_len, tb_len]) 22 9 5 wc Tryd.underlying22 Tryd.underlying5 Tryd.underlying9
                      have hwk : IntKind.i64.wrap ((k : Int) + (z : Int)) = (k : Int) + (z : Int) := IntWalk.i64_in _ (by omega)
                      have hgt : decide ((m8 : Int) < (k : Int) + (z : Int)) = false := by rw [decide_eq_false_iff_not]; omega
                      have hkz : ((k : Int) + (z : Int)) = ((k + z : Nat) : Int) := by omega
                      have HKZ := Lib.hid hkz
                      clear hkz hq hq1 hq2 hq3 hq4 hq5 hxl hxw hpb hnl hz20 hbl hm8 hw1 hw2 hCA hcC hsx hmem hlt hkb
                      go_upto_region 36 with (
                        go_at_call 11
                        refine HEN.out.mono ?_
                        rintro r2 w' ⟨rfl, hw⟩
                        rw [hw]
                        clear hw)
                      go_quiet (fail)
                      go_wp2
                      refine ⟨⟨d + 1, k + z, ?_, by go_num, by omega, Lib.hid ⟨HR12.out.drewN _, HC12.out.keeps ((Keeps.refl (fun _ => False) _).drewN _) (fun _ _ _ => id), HL12.out.keeps ((Keeps.refl (fun _ => False) _).drewN _) (fun _ _ _ => id), HK12.out.drewN _⟩⟩, by simp [intOf]; omega⟩
                      rw [HKZ.out]
                    · subst hs'
                      have HEN := Lib.hid (ended_q rg _ true w9.heap.size w12 HR12.out rfl)
                      go_wp2_with (
                        go_at_call 11
                        refine HEN.out.mono ?_
                        rintro r2 w' ⟨rfl, hw⟩
                        rw [hw]
                        clear hw)
                      go_meet
                      case rel => exact HK9.out.trans HK12.out
                  · have hge : ¬ ((d : Int) < 500) := by omega
                    go_wp2_with fail
                    go_meet
                    case rel => exact HK9.out.trans HKK.out
              case rest =>
                have HKC := Lib.hid hcut
                have HLD := Lib.hid (HLW.out.keeps hcut (fun _ _ _ => id))
                clear hcut HR11 HC11 HK11 HLA HM9 HF9 HFN HLz HLk HLn HP
                obtain ⟨wD, hwD⟩ : ∃ wD, wD = wc := ⟨_, rfl⟩
                subst hwD
                go_wp2_with fail
                refine (read_n a0 len0 cap0 bs wD HBL.out HLD.out (by omega) HBB.out).mono ?_
                rintro e w13 ⟨rg2, rfl, hr13, hk13⟩
                have HR13 := Lib.hid hr13
                have HK13 := Lib.hid (HKC.out.trans hk13)
                have HRG2 : Hid (w.heap.size ≤ rg2) := Nat.le_trans HKC.out.size hr13.1
                clear hr13 hk13 HKC
                go_wp2_with fail
                refine (take_nil wD.heap.size rg2 _ w13 HR13.out).mono ?_
                rintro e w14 ⟨x, s', rfl, hans, hr14, hk14⟩
                rcases hans with ⟨z, v, hmem, _⟩ | ⟨_, rfl, k', rfl⟩
                · cases hmem
                have HEN := Lib.hid (ended_q rg2 _ true wD.heap.size w14 hr14 rfl)
                have HR14 := Lib.hid hr14
                have HK14 := Lib.hid (keeps_low HK13.out hk14 (fun y hy => by rw [hy]; exact HRG2.out))
                clear hr14 hk14 HR13 HK13
                go_wp2_with fail
                refine (size_none 3 w14).mono ?_
                rintro e w15 ⟨rfl, hk15⟩
                have HEN2 := Lib.hid (ended_q rg2 _ true wD.heap.size w15 (HR14.out.keeps hk15 (fun _ _ => id)) rfl)
                have HK15 := Lib.hid (HK14.out.trans hk15)
                clear hk15 HEN
                go_wp2_with (first
                  | (go_at_call 11
                     refine HEN2.out.mono ?_
                     rintro r2 w' ⟨rfl, hw⟩
                     rw [hw]
                     clear hw)
                  | (go_at_call 13
                     refine (put_none_code 3 _ _).mono ?_
                     rintro r3 w16 ⟨rfl, hk16⟩
                     have HK16 := Lib.hid ((HK15.out.alloc _).trans hk16)
                     clear hk16))
                go_ret
                exact ⟨rfl, HK16.out.below (Nat.le_refl _) (fun _ h => h.elim)⟩

set_option maxRecDepth 100000 in
theorem lifted (os : Os) (started : os.Started) (H : Type) (enc : TypeId × Value → H) :
    ReturnsInHanded {} Tryd.checked os 3 .any (fun w args => (Rows.huffAnySpec.pre enc Tryd.prog Tryd.f3 [] false w args ∧ laidMetH Tryd.prog Rows.huffAnyRow.laid w) ∧ sizedMet enc Tryd.prog Tryd.f3 (OpenSpec.ofChange Rows.huffAnySpec) false w args) (Rows.huffAnySpec.post enc Tryd.prog Tryd.f3 false true false false) := by
  refine returnsInHanded_of_change_and (C := Tryd.checked) (X := fun w _ => laidMetH Tryd.prog Rows.huffAnyRow.laid w) (fun _ _ _ hh h => h.of_heap hh) own started (by kernel_rfl) Tryd.func3
    (ChangeSpec.witness_shaped (enc := enc) (C := Tryd.checked) (os := os) (X := fun w _ => laidMetH Tryd.prog Rows.huffAnyRow.laid w) false (World.doorLaid Tryd.prog 400 os) #[.slice none 0 0, .slice none 0 0, .slice none 0 0] 8 rfl (World.shaped_of_RefB (by kernel_rfl) (by kernel_rfl)) (by kernel_rfl) (by kernel_rfl) (by kernel_rfl) (door_met os _)) ?_
  intro W base args ds gs before hval0 hW _ _ hL _
  have hval : ∀ (j : Nat) t v, Tryd.f3.params[j]? = some t → args[j]? = some v → Value.okWide Tryd.prog W .any base t v := hval0
  have hW' := hW
  obtain ⟨p, q, hA0, hV, rfl, hfz, hnd⟩ := hW
  have hA : DataW.TrodAll enc Tryd.prog W 0 (fun _ => true) true Tryd.f3.params.toList args.toList ds p := hA0
  rw [Tryd.params3] at hA hval
  obtain ⟨v0, vs0, d0, ds0, p0, q0, hargs, rfl, rfl, h0, r0⟩ := trodAll_cons hA
  obtain ⟨v1, vs1, d1, ds1, p1, q1, rfl, rfl, rfl, h1, r1⟩ := trodAll_cons r0
  obtain ⟨v2, vs2, d2, ds2, p2, q2, rfl, rfl, rfl, h2, r2⟩ := trodAll_cons r1
  obtain ⟨rfl, rfl, rfl⟩ := trodAll_nil r2
  obtain rfl : args = #[v0, v1, v2] := by cases args; simp_all
  obtain ⟨rfl, rfl⟩ := trodVars_none hV
  obtain ⟨a0, len0, cap0, rfl⟩ := okWide_slice Tryd.underlying22 (hval 0 22 v0 rfl rfl)
  have k0 := h0
  have lt0 : ∀ x ∈ p0, x.block < W.heap.size := by obtain ⟨m, hm⟩ := k0; exact DataW.trod_lt m _ _ _ hm
  obtain ⟨z0, w0⟩ : ∃ zs, IsRow .u8 W a0 len0 cap0 zs := by
    obtain ⟨fuel, hf⟩ := h0
    exact open_row Tryd.underlying22 Tryd.underlying5 (by kernel_rfl) hf
  obtain ⟨a1, len1, cap1, rfl⟩ := okWide_slice Tryd.underlying22 (hval 1 22 v1 rfl rfl)
  have k1 := h1
  have lt1 : ∀ x ∈ p1, x.block < W.heap.size := by obtain ⟨m, hm⟩ := k1; exact DataW.trod_lt m _ _ _ hm
  obtain ⟨z1, w1⟩ : ∃ zs, IsRow .u8 W a1 len1 cap1 zs := by
    obtain ⟨fuel, hf⟩ := h1
    exact open_row Tryd.underlying22 Tryd.underlying5 (by kernel_rfl) hf
  obtain ⟨a2, len2, cap2, rfl⟩ := okWide_slice Tryd.underlying22 (hval 2 22 v2 rfl rfl)
  have k2 := h2
  have lt2 : ∀ x ∈ p2, x.block < W.heap.size := by obtain ⟨m, hm⟩ := k2; exact DataW.trod_lt m _ _ _ hm
  obtain ⟨z2, w2⟩ : ∃ zs, IsRow .u8 W a2 len2 cap2 zs := by
    obtain ⟨fuel, hf⟩ := h2
    exact open_row Tryd.underlying22 Tryd.underlying5 (by kernel_rfl) hf
  clear hA0 hval0
  have htab := of_laid hL
  refine (walk a0 len0 cap0 z0 a1 len1 cap1 z1 a2 len2 cap2 z2 W w0 w1 w2 htab).mono fun e W' ⟨he, bel⟩ => ?_
  subst he
  exact ⟨_, rfl, _, _, _, [], _, [], hW', trodAll_mk1 (shut_bool Tryd.underlying4 _), (trodAll_cons_mk (Below.trod laidOut (by kernel_rfl) (of_decide_eq_true (by kernel_rfl)) k0 bel lt0) (trodAll_cons_mk (Below.trod laidOut (by kernel_rfl) (of_decide_eq_true (by kernel_rfl)) k1 bel lt1) (trodAll_cons_mk (Below.trod laidOut (by kernel_rfl) (of_decide_eq_true (by kernel_rfl)) k2 bel lt2) trodAll_mk0))), rfl, bel.frame _, fun h => by cases h⟩

theorem over : Rows.huffAnyRow.holds Tryd.pinned (OpenSpec.ofChange Rows.huffAnySpec) :=
  OpenClaim.holds_of_wide 3 Tryd.f3 rfl rfl rfl rfl rfl rfl rfl ⟨rfl, rfl, rfl, rfl, rfl⟩ rfl rfl rfl rfl rfl (by kernel_rfl) Tryd.func3 (by kernel_rfl)
    (of_decide_eq_true (by kernel_rfl)) (by unfold Func.isWrapper; first | (rw [if_pos (by decide +kernel)]; kernel_rfl) | (rw [if_neg (by decide +kernel)]; exact ⟨rfl, rfl⟩))
    (fun os started H enc _ => lifted os started H enc)

/-- The row's statement. -/
theorem said : Rows.HuffAnySaid := over
end Go.Proofs.YtaamnbminmcbpaaDoor.huffAny
namespace Go.Proofs.YtaamnbminmcbpaaDoor
open Go
/-- The statement, as given: the card. -/
theorem huffAny_holds : Rows.HuffAnyCardSaid :=
  Claim7.holds_tied_plain_at .later [] [.data, .data, .data] true (true, "1ea957f80614704996baf8b322bedf5cb34489381dff86b4325422e7ea9d95f1") false
    huffAny.said (fun _ h => by cases h) (by kernel_rfl) (fun _ h => by cases h) huffAny_row_tie rfl ⟨rfl, rfl⟩ (by kernel_rfl) rfl
    (fun f fn hf hfn => by
      obtain rfl : f = 3 := Option.some.inj ((show Tryd.prog.funcNamed "scriptorium/scriptoriumlaw05.HuffAny" = some 3 by kernel_rfl).symm.trans hf) |>.symm
      obtain rfl : fn = Tryd.f3 := (Option.some.inj (Tryd.func3.symm.trans hfn)).symm
      exact ⟨by kernel_rfl, fun j t ht => by
        rw [Tryd.params3] at ht
        have hm : t ∈ [22] := by simpa using Array.mem_of_getElem? ht
        have hall : ([22].all fun u => !Tryd.prog.wantsStandIn u) = true := by kernel_rfl
        exact (show Tryd.prog.wantsStandIn t = false by simpa using List.all_eq_true.1 hall t hm)⟩)
    (by kernel_rfl)
#print axioms huffAny_holds
end Go.Proofs.YtaamnbminmcbpaaDoor
