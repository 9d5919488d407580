/- huff.New, plain data: entries that are right; words one behind the other. While words are made: the maps. -/
import Derived.Test.YtgaofnmgdefdcaaDoorJHufChkHufCode
namespace Go.Proofs.YtgaofnmgdefdcaaDoor.Hk
open Go.RowKit Go.Shelf Go.Sort Go.Proofs.YtgaofnmgdefdcaaDoor.Gen Go.Proofs.YtgaofnmgdefdcaaDoor.Mp Go.Proofs.YtgaofnmgdefdcaaDoor.Hr Go.Proofs.YtgaofnmgdefdcaaDoor.Hp Go.Proofs.YtgaofnmgdefdcaaDoor.Hg Go.Proofs.YtgaofnmgdefdcaaDoor.So Go.Proofs.YtgaofnmgdefdcaaDoor.Hs Go.Proofs.YtgaofnmgdefdcaaDoor.Hf Go.Proofs.YtgaofnmgdefdcaaDoor.Hz Go.Proofs.YtgaofnmgdefdcaaDoor.St Go.Proofs.YtgaofnmgdefdcaaDoor.Ln Go.Proofs.YtgaofnmgdefdcaaDoor.Hw Go.Proofs.YtgaofnmgdefdcaaDoor.Ss Go.Proofs.YtgaofnmgdefdcaaDoor.Hn

/-- Entries that are right. -/
structure Right (L : List G) : Prop where
  num : ∀ p ∈ L, -2147483647 ≤ p.1 ∧ p.1 ≤ 2147483647
  size : ∀ p ∈ L, 0 ≤ p.2 ∧ p.2 ≤ 20
  rise : L.Pairwise fun p q => p.1 < q.1
theorem right_of {L : List G} (h : ∀ i, i < L.length → errAt L i = 0) : Right L := by
  have hg : ∀ i, (hi : i < L.length) → L.getD i (0, 0) = L[i] := fun i hi => by rw [List.getD_eq_getElem?_getD, List.getElem?_eq_getElem hi]; rfl
  have h1 : ∀ i, (hi : i < L.length) → ¬ (¬ (-2147483647 ≤ L[i].1 ∧ L[i].1 ≤ 2147483647) ∨ L[i].2 < 0 ∨ 20 < L[i].2) ∧ ¬ (0 < i ∧ L[i].1 ≤ (L.getD (i - 1) (0, 0)).1) := by
    intro i hi
    have h2 := h i hi
    unfold errAt entErr at h2
    rw [hg i hi] at h2
    split at h2
    · omega
    · rename_i c1
      split at h2
      · omega
      · split at h2
        · omega
        · rename_i c3
          exact ⟨c1, c3⟩
  have h3 : ∀ i j, (hi : i < L.length) → (hj : i + j + 1 < L.length) → L[i].1 < L[i + j + 1].1 := by
    intro i j
    induction j with
    | zero =>
      intro hi hj
      have h4 := (h1 (i + 1) hj).2
      simp only [Nat.add_sub_cancel, Nat.add_zero] at h4 ⊢
      rw [hg i hi] at h4
      omega
    | succ j ih =>
      intro hi hj
      have h4 := ih hi (by omega)
      have h5 := (h1 (i + (j + 1) + 1) hj).2
      simp only [Nat.add_sub_cancel] at h5
      rw [hg (i + (j + 1)) (by omega)] at h5
      have e : i + (j + 1) = i + j + 1 := by omega
      simp only [e] at h5 ⊢
      omega
  refine ⟨fun p hp => ?_, fun p hp => ?_, ?_⟩
  · obtain ⟨i, hi, rfl⟩ := List.getElem_of_mem hp
    have := (h1 i hi).1
    omega
  · obtain ⟨i, hi, rfl⟩ := List.getElem_of_mem hp
    have := (h1 i hi).1
    omega
  · rw [List.pairwise_iff_getElem]
    intro i j hi hj hij
    obtain ⟨k, rfl⟩ : ∃ k, j = i + k + 1 := ⟨j - i - 1, by omega⟩
    exact h3 i k hi hj
theorem Right.sizes {L : List G} (h : Right L) : ∀ p ∈ nats' L, p.2 ≤ 20 := by
  intro p hp
  simp only [nats', List.mem_map] at hp
  obtain ⟨q, hq, rfl⟩ := hp
  have := h.size q hq
  simp only
  omega
theorem Right.nums {L : List G} (h : Right L) : ∀ p ∈ nats' L, -2147483647 ≤ p.1 ∧ p.1 ≤ 2147483647 := by
  intro p hp
  simp only [nats', List.mem_map] at hp
  obtain ⟨q, hq, rfl⟩ := hp
  exact h.num q hq
theorem Right.ints {L : List G} (h : Right L) : ints (nats' L) = L := ints_nats fun p hp => (h.size p hp).1
theorem Right.keys {L : List G} (h : Right L) : ((nats' L).map (·.1)).Nodup := by
  rw [List.Nodup, nats', List.map_map, List.pairwise_map]
  refine h.rise.imp fun {a b} hab => ?_
  simp only [Function.comp_def]
  omega
theorem next_jump {l : List E} {s z : Nat} (hs : s ≤ z) (hz : z ≤ 20) (h : ∀ p ∈ l, p.2 ≤ s) : nextOf l z = nextOf l s * 2 ^ (z - s) := by
  have h1 := next_mul h
  have h2 := next_mul (l := l) (s := z) (fun p hp => Nat.le_trans (h p hp) hs)
  have h3 : (2 : Nat) ^ (20 - s) = 2 ^ (z - s) * 2 ^ (20 - z) := by rw [← Nat.pow_add]; congr 1; omega
  rw [h3, ← Nat.mul_assoc] at h1
  exact Nat.eq_of_mul_eq_mul_right (Nat.two_pow_pos (20 - z)) (h2.trans h1.symm)
theorem asg_snoc (l : List E) (x : Int) (z : Nat) : asg 0 (l ++ [(x, z)]) = asg 0 l ++ [(x, z, nextOf l z)] := by
  rw [asg_app]
  simp [asg, nextOf]
theorem word_new {l : List E} {x : Int} {z : Nat} (hs : (l ++ [(x, z)]).Pairwise (fun a b => a.2 ≤ b.2)) : ∀ t ∈ asg 0 l, ¬ (t.2.2 = nextOf l z ∧ t.2.1 = z) := by
  intro t ht ⟨e1, e2⟩
  obtain ⟨_, h2⟩ := asg_spec 0 (l ++ [(x, z)]) hs (fun _ _ => Nat.dvd_zero _)
  rw [asg_snoc, List.pairwise_append] at h2
  have h3 := h2.2.2 t ht (x, z, nextOf l z) (by simp)
  unfold beg at h3
  simp only at h3
  rw [e1, e2] at h3
  have := Nat.two_pow_pos (20 - z)
  omega
/-- A word of a number's, a number of a word's, as a map's entries. -/
def we (t : Int × Nat × Nat) : Lit × Value := (.int .i64 t.1, wv t.2.2 t.2.1)
def nu (t : Int × Nat × Nat) : Lit × Value := (wk t.2.2 t.2.1, .int .i64 t.1)
/-- While words are made: the next word; words of numbers, numbers of words. -/
structure Nsm (w wr : World) (pc pn bw bn v z : Nat) (Ww Wn : List (Int × Nat × Nat)) : Prop where
  code : Blk wr pc 94 #[.map (some bw), .map (some bn)]
  nxt : Blk wr pn 96 #[.int .u32 (v : Int), .int .i64 (z : Int)]
  mw : IsM Tryd.prog 3 wr bw (Ww.map we)
  mn : IsM Tryd.prog 96 wr bn (Wn.map nu)
  keeps : Keeps (fun _ => False) w wr
/-- The blocks of a code and of the next word, apart from each other, and new. -/
structure Apart (B pc pn bw bn : Nat) : Prop where
  bwn : bw ≠ bn
  bwc : bw ≠ pc
  bwp : bw ≠ pn
  bnc : bn ≠ pc
  bnp : bn ≠ pn
  pcp : pc ≠ pn
  low : B ≤ bw ∧ B ≤ bn ∧ B ≤ pc ∧ B ≤ pn
abbrev Nst (w wr : World) (pc pn bw bn : Nat) (l : List E) (s : Nat) : Prop := Nsm w wr pc pn bw bn (nextOf l s) s (asg 0 l) (asg 0 l)
section
variable {w wr w1 : World} {pc pn bw bn v z : Nat} {Ww Wn : List (Int × Nat × Nat)}
theorem Nsm.next (h : Nsm w wr pc pn bw bn v z Ww Wn) (k : Keeps (fun _ => False) wr w1) : Nsm w w1 pc pn bw bn v z Ww Wn :=
  ⟨h.code.keeps k id, h.nxt.keeps k id, h.mw.keeps k id, h.mn.keeps k id, h.keeps.trans k⟩
theorem Nsm.set (h : Nsm w wr pc pn bw bn v z Ww Wn) (a : Apart w.heap.size pc pn bw bn) (v' z' : Nat) : Nsm w ((wr.setCell ⟨pn, 0, none⟩ (.int .u32 (v' : Int))).setCell ⟨pn, 1, none⟩ (.int .i64 (z' : Int))) pc pn bw bn v' z' Ww Wn := by
  have k : Keeps (· = pn) wr ((wr.setCell ⟨pn, 0, none⟩ (.int .u32 (v' : Int))).setCell ⟨pn, 1, none⟩ (.int .i64 (z' : Int))) := ((Keeps.refl _ _).setOwn 0 _).setOwn 1 _
  exact ⟨h.code.keeps k a.pcp, (h.nxt.setCell 0 _).setCell 1 _, h.mw.keeps k a.bwp, h.mn.keeps k a.bnp, keeps_low h.keeps k (fun y hy => by have := a.low; omega)⟩
theorem Nsm.set0 (h : Nsm w wr pc pn bw bn v z Ww Wn) (a : Apart w.heap.size pc pn bw bn) (v' : Nat) : Nsm w (wr.setCell ⟨pn, 0, none⟩ (.int .u32 (v' : Int))) pc pn bw bn v' z Ww Wn := by
  have k : Keeps (· = pn) wr (wr.setCell ⟨pn, 0, none⟩ (.int .u32 (v' : Int))) := (Keeps.refl _ _).setOwn 0 _
  exact ⟨h.code.keeps k a.pcp, h.nxt.setCell 0 _, h.mw.keeps k a.bwp, h.mn.keeps k a.bnp, keeps_low h.keeps k (fun y hy => by have := a.low; omega)⟩
theorem keys_we (W : List (Int × Nat × Nat)) : (W.map we).map (·.1) = W.map fun t => Lit.int .i64 t.1 := by simp [we, Function.comp_def]
theorem keys_nu (W : List (Int × Nat × Nat)) : (W.map nu).map (·.1) = W.map fun t => wk t.2.2 t.2.1 := by simp [nu, Function.comp_def]
theorem Nsm.storeW (h : Nsm w wr pc pn bw bn v z Ww Wn) (a : Apart w.heap.size pc pn bw bn) {x : Int} (hx : -2147483647 ≤ x ∧ x ≤ 2147483647) (hn : x ∉ Ww.map (·.1)) (hl : Ww.length ≤ 1000) :
    ∃ w', (Instr.mapUpdate 91 (.map (some bw)) (.int .i64 x) (wv v z)).run Tryd.prog wr = .ok () w' ∧ Nsm w w' pc pn bw bn v z (Ww ++ [(x, z, v)]) Wn ∧ Keeps (· = bw) wr w' := by
  obtain ⟨w', h1, h2, h3⟩ := update_run h.mw int_key Tryd.underlying91 (by rw [List.length_map]; omega) (key := .int .i64 x) (val := wv v z) (Go.Maps.keyOf_int_mk Tryd.underlying3 (wf_of (by omega)))
  refine ⟨w', h1, ⟨h.code.keeps h3 (Ne.symm a.bwc), h.nxt.keeps h3 (Ne.symm a.bwp), ?_, h.mn.keeps h3 (Ne.symm a.bwn), keeps_low h.keeps h3 (fun y hy => by have := a.low; omega)⟩, h3⟩
  rw [upd_new (kl := Lit.int .i64 x) trivial] at h2
  · rw [List.map_append]
    exact h2
  · rw [keys_we]
    intro hm
    rw [List.mem_map] at hm
    obtain ⟨t, ht, e⟩ := hm
    injection e with _ e
    exact hn (List.mem_map.2 ⟨t, ht, e⟩)
theorem Nsm.storeN (h : Nsm w wr pc pn bw bn v z Ww Wn) (a : Apart w.heap.size pc pn bw bn) (x : Int) (hv : v < 4294967296) (hz : z ≤ 20) (hn : ∀ t ∈ Wn, ¬ (t.2.2 = v ∧ t.2.1 = z)) (hw : ∀ t ∈ Wn, t.2.2 < 4294967296 ∧ t.2.1 ≤ 20) (hl : Wn.length ≤ 1000) :
    ∃ w', (Instr.mapUpdate 92 (.map (some bn)) (wv v z) (.int .i64 x)).run Tryd.prog wr = .ok () w' ∧ Nsm w w' pc pn bw bn v z Ww (Wn ++ [(x, z, v)]) ∧ Keeps (· = bn) wr w' := by
  obtain ⟨w', h1, h2, h3⟩ := update_run h.mn word_keyed Tryd.underlying92 (by rw [List.length_map]; omega) (key := wv v z) (val := .int .i64 x) (word_key hv (by omega))
  refine ⟨w', h1, ⟨h.code.keeps h3 (Ne.symm a.bnc), h.nxt.keeps h3 (Ne.symm a.bnp), h.mw.keeps h3 a.bwn, ?_, keeps_low h.keeps h3 (fun y hy => by have := a.low; omega)⟩, h3⟩
  rw [upd_new (kl := wk v z) (word_keyed.key (word_key hv (by omega)))] at h2
  · rw [List.map_append]
    exact h2
  · rw [keys_nu]
    intro hm
    rw [List.mem_map] at hm
    obtain ⟨t, ht, e⟩ := hm
    obtain ⟨h5, h6⟩ := hw t ht
    exact hn t ht (wk_inj h5 (by omega) hv (by omega) e)
end
theorem Nst.new {w wr : World} (k : Keeps (fun _ => False) w wr) : Nst w ((((wr.alloc (.map #[] 0)).alloc (.map #[] 0)).alloc (.cells #[.map (some wr.heap.size), .map (some (wr.heap.size + 1))] 94)).alloc (.cells #[.int .u32 0, .int .i64 0] 96)) (wr.heap.size + 1 + 1) (wr.heap.size + 1 + 1 + 1) wr.heap.size (wr.heap.size + 1) [] 0 := by
  have h1 := IsM.new Tryd.prog 3 wr
  have h2 := IsM.new Tryd.prog 96 (wr.alloc (.map #[] 0))
  have e1 : (wr.alloc (.map #[] 0)).heap.size = wr.heap.size + 1 := by simp
  have e2 : ((wr.alloc (.map #[] 0)).alloc (.map #[] 0)).heap.size = wr.heap.size + 1 + 1 := by simp
  have h3 := Blk.new ((wr.alloc (.map #[] 0)).alloc (.map #[] 0)) 94 #[.map (some wr.heap.size), .map (some (wr.heap.size + 1))]
  have e3 : (((wr.alloc (.map #[] 0)).alloc (.map #[] 0)).alloc (.cells #[.map (some wr.heap.size), .map (some (wr.heap.size + 1))] 94)).heap.size = wr.heap.size + 1 + 1 + 1 := by simp
  have h4 := Blk.new (((wr.alloc (.map #[] 0)).alloc (.map #[] 0)).alloc (.cells #[.map (some wr.heap.size), .map (some (wr.heap.size + 1))] 94)) 96 #[.int .u32 0, .int .i64 0]
  rw [e1] at h2
  rw [e2] at h3
  rw [e3] at h4
  have k1 := fun (W : World) (o : Obj) => (Keeps.refl (fun _ => False) W).alloc o
  refine ⟨h3.alloc _, ?_, ?_, ?_, (((k.alloc _).alloc _).alloc _).alloc _⟩
  · have : nextOf [] 0 = 0 := by simp [nextOf, posOf]
    rw [this]
    exact h4
  · exact ((h1.keeps (k1 _ _) id).keeps (k1 _ _) id).keeps (k1 _ _) id
  · exact (h2.keeps (k1 _ _) id).keeps (k1 _ _) id
/-- A code in memory: words of numbers, numbers of words. -/
def IsCode (base : Nat) (w : World) (p : Nat) (W : List (Int × Nat × Nat)) : Prop :=
  ∃ bw bn, Blk w p 94 #[.map (some bw), .map (some bn)] ∧ IsM Tryd.prog 3 w bw (W.map we) ∧ IsM Tryd.prog 96 w bn (W.map nu) ∧ base ≤ p ∧ base ≤ bw ∧ base ≤ bn
theorem IsCode.keeps {S : Nat → Prop} {base p : Nat} {w w1 : World} {W : List (Int × Nat × Nat)} (h : IsCode base w p W) (k : Keeps S w w1) (hS : ∀ b, base ≤ b → b < w.heap.size → ¬ S b) : IsCode base w1 p W := by
  obtain ⟨bw, bn, h1, h2, h3, h4, h5, h6⟩ := h
  exact ⟨bw, bn, h1.keeps k (hS _ h4 h1.lt), h2.keeps k (hS _ h5 h2.lt), h3.keeps k (hS _ h6 h3.lt), h4, h5, h6⟩
/-- What New answers, in all cases. -/
def NewAns (w w' : World) (L : List G) (r : Ending) : Prop :=
  ((L.length = 0 ∨ 256 < L.length) ∧ r = .returned (.tuple #[.pointer none, .int .i64 7])) ∨
  ((1 ≤ L.length ∧ L.length ≤ 256) ∧ ∃ i, i < L.length ∧ (∀ j, j < i → errAt L j = 0) ∧ errAt L i ≠ 0 ∧ r = .returned (.tuple #[.pointer none, .int .i64 (errAt L i)])) ∨
  ((1 ≤ L.length ∧ L.length ≤ 256) ∧ (∀ i, i < L.length → errAt L i = 0) ∧ 2 ^ 20 < posOf (nats' L) ∧ r = .returned (.tuple #[.pointer none, .int .i64 13])) ∨
  ((1 ≤ L.length ∧ L.length ≤ 256) ∧ (∀ i, i < L.length → errAt L i = 0) ∧ posOf (nats' L) ≤ 2 ^ 20 ∧ ∃ p, r = .returned (.tuple #[.pointer (some ⟨p, 0, none⟩), .int .i64 0]) ∧ IsCode w.heap.size w' p (wordsOf (nats' L)))
end Go.Proofs.YtgaofnmgdefdcaaDoor.Hk
