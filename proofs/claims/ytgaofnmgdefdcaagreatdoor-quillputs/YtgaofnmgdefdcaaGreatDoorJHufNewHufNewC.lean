/- huff.New, plain data: entries that are right; words one behind the other. While words are made: the maps. -/
/- huff.New, the call: what is refused; the code of entries that are right and fit. -/
import Derived.Test.YtgaofnmgdefdcaaGreatDoorJHufChkHufCode

namespace Go.Proofs.YtgaofnmgdefdcaaGreatDoor.Hk
open Go.RowKit Go.Shelf Go.Sort Go.Proofs.YtgaofnmgdefdcaaGreatDoor.Gen Go.Proofs.YtgaofnmgdefdcaaGreatDoor.Mp Go.Proofs.YtgaofnmgdefdcaaGreatDoor.Hr Go.Proofs.YtgaofnmgdefdcaaGreatDoor.Hp Go.Proofs.YtgaofnmgdefdcaaGreatDoor.Hg Go.Proofs.YtgaofnmgdefdcaaGreatDoor.So Go.Proofs.YtgaofnmgdefdcaaGreatDoor.Hs Go.Proofs.YtgaofnmgdefdcaaGreatDoor.Hf Go.Proofs.YtgaofnmgdefdcaaGreatDoor.Hz Go.Proofs.YtgaofnmgdefdcaaGreatDoor.St Go.Proofs.YtgaofnmgdefdcaaGreatDoor.Ln Go.Proofs.YtgaofnmgdefdcaaGreatDoor.Hw Go.Proofs.YtgaofnmgdefdcaaGreatDoor.Ss Go.Proofs.YtgaofnmgdefdcaaGreatDoor.Hn

/-- Entries that are right. -/
structure Right (L : List G) : Prop where
  num : ∀ p ∈ L, -2147483647 ≤ p.1 ∧ p.1 ≤ 2147483647
  size : ∀ p ∈ L, 0 ≤ p.2 ∧ p.2 ≤ 20
  rise : L.Pairwise fun p q => p.1 < q.1
theorem right_of {L : List G} (h : ∀ i, i < L.length → errAt L i = 0) : Right L := by
  have hg : ∀ i, (hi : i < L.length) → L.getD i (0, 0) = L[i] := fun i hi => by rw [List.getD_eq_getElem?_getD, List.getElem?_eq_getElem hi]; rfl
  have h1 : ∀ i, (hi : i < L.length) → ¬ (¬ (-2147483647 ≤ L[i].1 ∧ L[i].1 ≤ 2147483647) ∨ L[i].2 < 0 ∨ 20 < L[i].2) ∧ ¬ (0 < i ∧ L[i].1 ≤ (L.getD (i - 1) (0, 0)).1) := by
    intro i hi
    have h2 := h i hi
    unfold errAt entErr at h2
    rw [hg i hi] at h2
    split at h2
    · omega
    · rename_i c1
      split at h2
      · omega
      · split at h2
        · omega
        · rename_i c3
          exact ⟨c1, c3⟩
  have h3 : ∀ i j, (hi : i < L.length) → (hj : i + j + 1 < L.length) → L[i].1 < L[i + j + 1].1 := by
    intro i j
    induction j with
    | zero =>
      intro hi hj
      have h4 := (h1 (i + 1) hj).2
      simp only [Nat.add_sub_cancel, Nat.add_zero] at h4 ⊢
      rw [hg i hi] at h4
      omega
    | succ j ih =>
      intro hi hj
      have h4 := ih hi (by omega)
      have h5 := (h1 (i + (j + 1) + 1) hj).2
      simp only [Nat.add_sub_cancel] at h5
      rw [hg (i + (j + 1)) (by omega)] at h5
      have e : i + (j + 1) = i + j + 1 := by omega
      simp only [e] at h5 ⊢
      omega
  refine ⟨fun p hp => ?_, fun p hp => ?_, ?_⟩
  · obtain ⟨i, hi, rfl⟩ := List.getElem_of_mem hp
    have := (h1 i hi).1
    omega
  · obtain ⟨i, hi, rfl⟩ := List.getElem_of_mem hp
    have := (h1 i hi).1
    omega
  · rw [List.pairwise_iff_getElem]
    intro i j hi hj hij
    obtain ⟨k, rfl⟩ : ∃ k, j = i + k + 1 := ⟨j - i - 1, by omega⟩
    exact h3 i k hi hj
theorem Right.sizes {L : List G} (h : Right L) : ∀ p ∈ nats' L, p.2 ≤ 20 := by
  intro p hp
  simp only [nats', List.mem_map] at hp
  obtain ⟨q, hq, rfl⟩ := hp
  have := h.size q hq
  simp only
  omega
theorem Right.nums {L : List G} (h : Right L) : ∀ p ∈ nats' L, -2147483647 ≤ p.1 ∧ p.1 ≤ 2147483647 := by
  intro p hp
  simp only [nats', List.mem_map] at hp
  obtain ⟨q, hq, rfl⟩ := hp
  exact h.num q hq
theorem Right.ints {L : List G} (h : Right L) : ints (nats' L) = L := ints_nats fun p hp => (h.size p hp).1
theorem Right.keys {L : List G} (h : Right L) : ((nats' L).map (·.1)).Nodup := by
  rw [List.Nodup, nats', List.map_map, List.pairwise_map]
  refine h.rise.imp fun {a b} hab => ?_
  simp only [Function.comp_def]
  omega
theorem next_jump {l : List E} {s z : Nat} (hs : s ≤ z) (hz : z ≤ 20) (h : ∀ p ∈ l, p.2 ≤ s) : nextOf l z = nextOf l s * 2 ^ (z - s) := by
  have h1 := next_mul h
  have h2 := next_mul (l := l) (s := z) (fun p hp => Nat.le_trans (h p hp) hs)
  have h3 : (2 : Nat) ^ (20 - s) = 2 ^ (z - s) * 2 ^ (20 - z) := by rw [← Nat.pow_add]; congr 1; omega
  rw [h3, ← Nat.mul_assoc] at h1
  exact Nat.eq_of_mul_eq_mul_right (Nat.two_pow_pos (20 - z)) (h2.trans h1.symm)
theorem asg_snoc (l : List E) (x : Int) (z : Nat) : asg 0 (l ++ [(x, z)]) = asg 0 l ++ [(x, z, nextOf l z)] := by
  rw [asg_app]
  simp [asg, nextOf]
theorem word_new {l : List E} {x : Int} {z : Nat} (hs : (l ++ [(x, z)]).Pairwise (fun a b => a.2 ≤ b.2)) : ∀ t ∈ asg 0 l, ¬ (t.2.2 = nextOf l z ∧ t.2.1 = z) := by
  intro t ht ⟨e1, e2⟩
  obtain ⟨_, h2⟩ := asg_spec 0 (l ++ [(x, z)]) hs (fun _ _ => Nat.dvd_zero _)
  rw [asg_snoc, List.pairwise_append] at h2
  have h3 := h2.2.2 t ht (x, z, nextOf l z) (by simp)
  unfold beg at h3
  simp only at h3
  rw [e1, e2] at h3
  have := Nat.two_pow_pos (20 - z)
  omega
/-- A word of a number's, a number of a word's, as a map's entries. -/
def we (t : Int × Nat × Nat) : Lit × Value := (.int .i64 t.1, wv t.2.2 t.2.1)
def nu (t : Int × Nat × Nat) : Lit × Value := (wk t.2.2 t.2.1, .int .i64 t.1)
/-- While words are made: the next word; words of numbers, numbers of words. -/
structure Nsm (w wr : World) (pc pn bw bn v z : Nat) (Ww Wn : List (Int × Nat × Nat)) : Prop where
  code : Blk wr pc 149 #[.map (some bw), .map (some bn)]
  nxt : Blk wr pn 129 #[.int .u32 (v : Int), .int .i64 (z : Int)]
  mw : IsM Tryz.prog 3 wr bw (Ww.map we)
  mn : IsM Tryz.prog 129 wr bn (Wn.map nu)
  keeps : Keeps (fun _ => False) w wr
/-- The blocks of a code and of the next word, apart from each other, and new. -/
structure Apart (B pc pn bw bn : Nat) : Prop where
  bwn : bw ≠ bn
  bwc : bw ≠ pc
  bwp : bw ≠ pn
  bnc : bn ≠ pc
  bnp : bn ≠ pn
  pcp : pc ≠ pn
  low : B ≤ bw ∧ B ≤ bn ∧ B ≤ pc ∧ B ≤ pn
abbrev Nst (w wr : World) (pc pn bw bn : Nat) (l : List E) (s : Nat) : Prop := Nsm w wr pc pn bw bn (nextOf l s) s (asg 0 l) (asg 0 l)
section
variable {w wr w1 : World} {pc pn bw bn v z : Nat} {Ww Wn : List (Int × Nat × Nat)}
theorem Nsm.next (h : Nsm w wr pc pn bw bn v z Ww Wn) (k : Keeps (fun _ => False) wr w1) : Nsm w w1 pc pn bw bn v z Ww Wn :=
  ⟨h.code.keeps k id, h.nxt.keeps k id, h.mw.keeps k id, h.mn.keeps k id, h.keeps.trans k⟩
theorem Nsm.set (h : Nsm w wr pc pn bw bn v z Ww Wn) (a : Apart w.heap.size pc pn bw bn) (v' z' : Nat) : Nsm w ((wr.setCell ⟨pn, 0, none⟩ (.int .u32 (v' : Int))).setCell ⟨pn, 1, none⟩ (.int .i64 (z' : Int))) pc pn bw bn v' z' Ww Wn := by
  have k : Keeps (· = pn) wr ((wr.setCell ⟨pn, 0, none⟩ (.int .u32 (v' : Int))).setCell ⟨pn, 1, none⟩ (.int .i64 (z' : Int))) := ((Keeps.refl _ _).setOwn 0 _).setOwn 1 _
  exact ⟨h.code.keeps k a.pcp, (h.nxt.setCell 0 _).setCell 1 _, h.mw.keeps k a.bwp, h.mn.keeps k a.bnp, keeps_low h.keeps k (fun y hy => by have := a.low; omega)⟩
theorem Nsm.set0 (h : Nsm w wr pc pn bw bn v z Ww Wn) (a : Apart w.heap.size pc pn bw bn) (v' : Nat) : Nsm w (wr.setCell ⟨pn, 0, none⟩ (.int .u32 (v' : Int))) pc pn bw bn v' z Ww Wn := by
  have k : Keeps (· = pn) wr (wr.setCell ⟨pn, 0, none⟩ (.int .u32 (v' : Int))) := (Keeps.refl _ _).setOwn 0 _
  exact ⟨h.code.keeps k a.pcp, h.nxt.setCell 0 _, h.mw.keeps k a.bwp, h.mn.keeps k a.bnp, keeps_low h.keeps k (fun y hy => by have := a.low; omega)⟩
theorem keys_we (W : List (Int × Nat × Nat)) : (W.map we).map (·.1) = W.map fun t => Lit.int .i64 t.1 := by simp [we, Function.comp_def]
theorem keys_nu (W : List (Int × Nat × Nat)) : (W.map nu).map (·.1) = W.map fun t => wk t.2.2 t.2.1 := by simp [nu, Function.comp_def]
theorem Nsm.storeW (h : Nsm w wr pc pn bw bn v z Ww Wn) (a : Apart w.heap.size pc pn bw bn) {x : Int} (hx : -2147483647 ≤ x ∧ x ≤ 2147483647) (hn : x ∉ Ww.map (·.1)) (hl : Ww.length ≤ 1000) :
    ∃ w', (Instr.mapUpdate 146 (.map (some bw)) (.int .i64 x) (wv v z)).run Tryz.prog wr = .ok () w' ∧ Nsm w w' pc pn bw bn v z (Ww ++ [(x, z, v)]) Wn ∧ Keeps (· = bw) wr w' := by
  obtain ⟨w', h1, h2, h3⟩ := update_run h.mw int_key Tryz.underlying146 (by rw [List.length_map]; omega) (key := .int .i64 x) (val := wv v z) (Go.Maps.keyOf_int_mk Tryz.underlying3 (wf_of (by omega)))
  refine ⟨w', h1, ⟨h.code.keeps h3 (Ne.symm a.bwc), h.nxt.keeps h3 (Ne.symm a.bwp), ?_, h.mn.keeps h3 (Ne.symm a.bwn), keeps_low h.keeps h3 (fun y hy => by have := a.low; omega)⟩, h3⟩
  rw [upd_new (kl := Lit.int .i64 x) trivial] at h2
  · rw [List.map_append]
    exact h2
  · rw [keys_we]
    intro hm
    rw [List.mem_map] at hm
    obtain ⟨t, ht, e⟩ := hm
    injection e with _ e
    exact hn (List.mem_map.2 ⟨t, ht, e⟩)
theorem Nsm.storeN (h : Nsm w wr pc pn bw bn v z Ww Wn) (a : Apart w.heap.size pc pn bw bn) (x : Int) (hv : v < 4294967296) (hz : z ≤ 20) (hn : ∀ t ∈ Wn, ¬ (t.2.2 = v ∧ t.2.1 = z)) (hw : ∀ t ∈ Wn, t.2.2 < 4294967296 ∧ t.2.1 ≤ 20) (hl : Wn.length ≤ 1000) :
    ∃ w', (Instr.mapUpdate 147 (.map (some bn)) (wv v z) (.int .i64 x)).run Tryz.prog wr = .ok () w' ∧ Nsm w w' pc pn bw bn v z Ww (Wn ++ [(x, z, v)]) ∧ Keeps (· = bn) wr w' := by
  obtain ⟨w', h1, h2, h3⟩ := update_run h.mn word_keyed Tryz.underlying147 (by rw [List.length_map]; omega) (key := wv v z) (val := .int .i64 x) (word_key hv (by omega))
  refine ⟨w', h1, ⟨h.code.keeps h3 (Ne.symm a.bnc), h.nxt.keeps h3 (Ne.symm a.bnp), h.mw.keeps h3 a.bwn, ?_, keeps_low h.keeps h3 (fun y hy => by have := a.low; omega)⟩, h3⟩
  rw [upd_new (kl := wk v z) (word_keyed.key (word_key hv (by omega)))] at h2
  · rw [List.map_append]
    exact h2
  · rw [keys_nu]
    intro hm
    rw [List.mem_map] at hm
    obtain ⟨t, ht, e⟩ := hm
    obtain ⟨h5, h6⟩ := hw t ht
    exact hn t ht (wk_inj h5 (by omega) hv (by omega) e)
end
theorem Nst.new {w wr : World} (k : Keeps (fun _ => False) w wr) : Nst w ((((wr.alloc (.map #[] 0)).alloc (.map #[] 0)).alloc (.cells #[.map (some wr.heap.size), .map (some (wr.heap.size + 1))] 149)).alloc (.cells #[.int .u32 0, .int .i64 0] 129)) (wr.heap.size + 1 + 1) (wr.heap.size + 1 + 1 + 1) wr.heap.size (wr.heap.size + 1) [] 0 := by
  have h1 := IsM.new Tryz.prog 3 wr
  have h2 := IsM.new Tryz.prog 129 (wr.alloc (.map #[] 0))
  have e1 : (wr.alloc (.map #[] 0)).heap.size = wr.heap.size + 1 := by simp
  have e2 : ((wr.alloc (.map #[] 0)).alloc (.map #[] 0)).heap.size = wr.heap.size + 1 + 1 := by simp
  have h3 := Blk.new ((wr.alloc (.map #[] 0)).alloc (.map #[] 0)) 149 #[.map (some wr.heap.size), .map (some (wr.heap.size + 1))]
  have e3 : (((wr.alloc (.map #[] 0)).alloc (.map #[] 0)).alloc (.cells #[.map (some wr.heap.size), .map (some (wr.heap.size + 1))] 149)).heap.size = wr.heap.size + 1 + 1 + 1 := by simp
  have h4 := Blk.new (((wr.alloc (.map #[] 0)).alloc (.map #[] 0)).alloc (.cells #[.map (some wr.heap.size), .map (some (wr.heap.size + 1))] 149)) 129 #[.int .u32 0, .int .i64 0]
  rw [e1] at h2
  rw [e2] at h3
  rw [e3] at h4
  have k1 := fun (W : World) (o : Obj) => (Keeps.refl (fun _ => False) W).alloc o
  refine ⟨h3.alloc _, ?_, ?_, ?_, (((k.alloc _).alloc _).alloc _).alloc _⟩
  · have : nextOf [] 0 = 0 := by simp [nextOf, posOf]
    rw [this]
    exact h4
  · exact ((h1.keeps (k1 _ _) id).keeps (k1 _ _) id).keeps (k1 _ _) id
  · exact (h2.keeps (k1 _ _) id).keeps (k1 _ _) id
/-- A code in memory: words of numbers, numbers of words. -/
def IsCode (base : Nat) (w : World) (p : Nat) (W : List (Int × Nat × Nat)) : Prop :=
  ∃ bw bn, Blk w p 149 #[.map (some bw), .map (some bn)] ∧ IsM Tryz.prog 3 w bw (W.map we) ∧ IsM Tryz.prog 129 w bn (W.map nu) ∧ base ≤ p ∧ base ≤ bw ∧ base ≤ bn
theorem IsCode.keeps {S : Nat → Prop} {base p : Nat} {w w1 : World} {W : List (Int × Nat × Nat)} (h : IsCode base w p W) (k : Keeps S w w1) (hS : ∀ b, base ≤ b → b < w.heap.size → ¬ S b) : IsCode base w1 p W := by
  obtain ⟨bw, bn, h1, h2, h3, h4, h5, h6⟩ := h
  exact ⟨bw, bn, h1.keeps k (hS _ h4 h1.lt), h2.keeps k (hS _ h5 h2.lt), h3.keeps k (hS _ h6 h3.lt), h4, h5, h6⟩
/-- What New answers, in all cases. -/
def NewAns (w w' : World) (L : List G) (r : Ending) : Prop :=
  ((L.length = 0 ∨ 256 < L.length) ∧ r = .returned (.tuple #[.pointer none, .int .i64 7])) ∨
  ((1 ≤ L.length ∧ L.length ≤ 256) ∧ ∃ i, i < L.length ∧ (∀ j, j < i → errAt L j = 0) ∧ errAt L i ≠ 0 ∧ r = .returned (.tuple #[.pointer none, .int .i64 (errAt L i)])) ∨
  ((1 ≤ L.length ∧ L.length ≤ 256) ∧ (∀ i, i < L.length → errAt L i = 0) ∧ 2 ^ 20 < posOf (nats' L) ∧ r = .returned (.tuple #[.pointer none, .int .i64 13])) ∨
  ((1 ≤ L.length ∧ L.length ≤ 256) ∧ (∀ i, i < L.length → errAt L i = 0) ∧ posOf (nats' L) ≤ 2 ^ 20 ∧ ∃ p, r = .returned (.tuple #[.pointer (some ⟨p, 0, none⟩), .int .i64 0]) ∧ IsCode w.heap.size w' p (wordsOf (nats' L)))
end Go.Proofs.YtgaofnmgdefdcaaGreatDoor.Hk

namespace Go.Proofs.YtgaofnmgdefdcaaGreatDoor.Hk
open Go.RowKit Go.Shelf Go.Sort Go.Proofs.YtgaofnmgdefdcaaGreatDoor.Gen Go.Proofs.YtgaofnmgdefdcaaGreatDoor.Mp Go.Proofs.YtgaofnmgdefdcaaGreatDoor.Hr Go.Proofs.YtgaofnmgdefdcaaGreatDoor.Hp Go.Proofs.YtgaofnmgdefdcaaGreatDoor.Hg Go.Proofs.YtgaofnmgdefdcaaGreatDoor.So Go.Proofs.YtgaofnmgdefdcaaGreatDoor.Hs Go.Proofs.YtgaofnmgdefdcaaGreatDoor.Hf Go.Proofs.YtgaofnmgdefdcaaGreatDoor.Hz Go.Proofs.YtgaofnmgdefdcaaGreatDoor.St Go.Proofs.YtgaofnmgdefdcaaGreatDoor.Ln Go.Proofs.YtgaofnmgdefdcaaGreatDoor.Hw Go.Proofs.YtgaofnmgdefdcaaGreatDoor.Ss Go.Proofs.YtgaofnmgdefdcaaGreatDoor.Hn

set_option maxHeartbeats 4000000 in
set_option maxRecDepth 100000 in
theorem new_ (A : Option Addr) (n c : Nat) (L : List G) (w : World) (hL : RowAt w A (gvs L)) (hn : L.length = n) (hs : n ≤ 1000) :
    Calls Tryz.prog 56 #[.slice A n c] w fun r w' => NewAns w w' L r ∧ Keeps (fun _ => False) w w' := by
  have hmm := @run_makeMap Tryz.prog
  have HL := Lib.hid hL
  have HN := Lib.hid hn
  clear hL hn
  obtain ⟨B, hB⟩ : ∃ B, B = decide (1 ≤ n ∧ n ≤ 256) := ⟨_, rfl⟩
  have HMA := Lib.hid (fun w => by have := many_ n w; rw [← hB] at this; exact this)
  have HB := Lib.hid hB
  clear hB
  go_enter Tryz.func56, Tryz.ntmps56
  cases B with
  | false =>
    have hmany : ¬ (1 ≤ n ∧ n ≤ 256) := by simpa using HB.out.symm
    go_wp2_with (
      refine (HMA.out _).mono ?_
      rintro e w' ⟨rfl, hw⟩
      rw [hw]
      clear hw)
    go_ret2
    exact ⟨.inl ⟨by rw [HN.out]; omega, rfl⟩, Keeps.refl _ _⟩
  | true =>
    have hmany : 1 ≤ n ∧ n ≤ 256 := by simpa using HB.out.symm
    obtain ⟨hm1, hm2⟩ := hmany
    go_wp2_with (
      refine (HMA.out _).mono ?_
      rintro e w' ⟨rfl, hw⟩
      rw [hw]
      clear hw)
    go_loopw [17] (fun iv wr => ∃ i : Nat, iv = .int .i64 (i : Int) ∧ i ≤ n ∧ (∀ j, j < i → errAt L j = 0) ∧ Keeps (fun _ => False) w wr) (fun iv _ => n - (intOf iv).toNat)
    case atStart => exact ⟨0, rfl, by omega, by omega, Keeps.refl _ _⟩
    case round =>
      obtain ⟨i, rfl, hin, hok, hk⟩ := hrel
      have HOK := Lib.hid hok
      have HK := Lib.hid hk
      clear hok hk
      by_cases hlt : i < n
      · obtain ⟨b, o, rfl, hb, h0, h1⟩ := g_item (w := wr) (l := L) (HL.out.keeps HK.out (fun _ _ _ => id)) (j := i) (by rw [HN.out]; exact hlt)
        obtain ⟨x, hx⟩ : ∃ x, x = L.getD i (0, 0) := ⟨_, rfl⟩
        rw [← hx] at h0 h1
        have HKA := Lib.hid (HK.out.alloc (.cells #[.int .i64 x.1, .int .i64 x.2] 87))
        have HCH := Lib.hid (check_ (some ⟨b, o, none⟩) n c i L x _ (HL.out.keeps HKA.out (fun _ _ _ => id)) HN.out hs hlt)
        obtain ⟨e, he⟩ : ∃ e, e = entErr n i x (L.getD (i - 1) (0, 0)).1 := ⟨_, rfl⟩
        rw [← he] at HCH
        have HER : Hid (errAt L i = e) := by show errAt L i = e; rw [he]; unfold errAt; rw [HN.out, ← hx]
        obtain ⟨x1, x2⟩ := x
        simp only at h0 h1 HKA HCH
        have hi0 : (i : Int) < (n : Int) := by omega
        clear hx he
        by_cases he0 : e = 0
        · subst he0
          go_wp2_with (
            refine HCH.out.mono ?_
            rintro r1 w1 ⟨rfl, hk1⟩
            have HK1 := Lib.hid (HKA.out.trans hk1)
            clear hk1)
          refine ⟨⟨i + 1, by go_num, by omega, ?_, HK1.out⟩, by simp [intOf]; omega⟩
          intro j hj
          rcases Nat.lt_or_ge j i with h | h
          · exact HOK.out j h
          · obtain rfl : j = i := by omega
            exact HER.out
        · have heb : (e == 0) = false := by simpa using he0
          have hen : (e != 0) = true := by simpa using he0
          go_wp2_with (
            refine HCH.out.mono ?_
            rintro r1 w1 ⟨rfl, hk1⟩
            have HK1 := Lib.hid (HKA.out.trans hk1)
            clear hk1)
          go_ret2
          exact ⟨.inr (.inl ⟨by rw [HN.out]; exact ⟨hm1, hm2⟩, i, by rw [HN.out]; exact hlt, HOK.out, by rw [HER.out]; exact he0, by rw [HER.out]; rfl⟩), HK1.out⟩
      · obtain rfl : i = n := by omega
        clear hlt
        have HRT := Lib.hid (right_of (L := L) (fun j hj => HOK.out j (by rw [← HN.out]; exact hj)))
        obtain ⟨M, hM⟩ : ∃ M, M = nats' L := ⟨_, rfl⟩
        have HM := Lib.hid hM
        have HEN : Hid (EntsAt wr A M) := by
          show RowAt wr A (evs M)
          rw [← gvs_ints, hM, HRT.out.ints]
          exact HL.out.keeps HK.out (fun _ _ _ => id)
        have HML : Hid (M.length = i) := by show M.length = i; rw [hM, nats', List.length_map]; exact HN.out
        have HMZ : Hid (∀ p ∈ M, p.2 ≤ 20) := by rw [hM]; exact HRT.out.sizes
        clear hM
        have HST := Lib.hid (Nst.new HK.out)
        have hlow : w.heap.size ≤ wr.heap.size := HK.out.size
        go_upto_region 12 with fail
        obtain ⟨W4, hW4⟩ : ∃ W4, W4 = ((((wr.alloc (.map #[] 0)).alloc (.map #[] 0)).alloc (.cells #[.map (some wr.heap.size), .map (some (wr.heap.size + 1))] 149)).alloc (.cells #[.int .u32 0, .int .i64 0] 129)) := ⟨_, rfl⟩
        have HK4 : Hid (Keeps (fun _ => False) wr W4) := by rw [hW4]; exact ((((Keeps.refl _ _).alloc _).alloc _).alloc _).alloc _
        rw [← hW4] at HST ⊢
        clear hW4
        have HSF := Lib.hid (shortest_ A i c M W4 (RowAt.keeps HEN.out HK4.out (fun _ _ _ => id)) HML.out hm1 hs HMZ.out)
        obtain ⟨bw, hbw⟩ : ∃ bw, bw = wr.heap.size := ⟨_, rfl⟩
        obtain ⟨bn, hbn⟩ : ∃ bn, bn = wr.heap.size + 1 := ⟨_, rfl⟩
        obtain ⟨pc, hpc⟩ : ∃ pc, pc = wr.heap.size + 1 + 1 := ⟨_, rfl⟩
        obtain ⟨pn, hpn⟩ : ∃ pn, pn = wr.heap.size + 1 + 1 + 1 := ⟨_, rfl⟩
        have HNE : Hid (Apart w.heap.size pc pn bw bn) := by
          refine ⟨?_, ?_, ?_, ?_, ?_, ?_, ⟨?_, ?_, ?_, ?_⟩⟩ <;> omega
        rw [← hpn, ← hpc, ← hbn, ← hbw] at HST
        rw [← hpn, ← hpc, ← hbn, ← hbw]
        clear hbw hbn hpc hpn hlow HK HEN HK4
        go_wp2_with (
          refine HSF.out.mono ?_
          rintro r1 w5 ⟨g, c5, rfl, hg5, he5, hk5⟩
          have HST5 := Lib.hid (HST.out.next hk5)
          have HGN := Lib.hid (show g ≠ pn ∧ g ≠ bw ∧ g ≠ bn from ⟨fun e => absurd HST.out.nxt.lt (by rw [← e]; omega), fun e => absurd HST.out.mw.lt (by rw [← e]; omega), fun e => absurd HST.out.mn.lt (by rw [← e]; omega)⟩)
          have HE5 := Lib.hid he5
          clear hk5 he5 hg5)
        clear HST HSF
        obtain ⟨Z, hZ⟩ : ∃ Z, Z = line M 21 := ⟨_, rfl⟩
        rw [← hZ] at HE5
        have HZ := Lib.hid hZ
        have HZL : Hid (Z.length = i) := by show Z.length = i; rw [hZ, (line_perm HMZ.out).length_eq]; exact HML.out
        have HZS : Hid (Z.Pairwise fun a b => a.2 ≤ b.2) := by rw [hZ]; exact line_sorted M 21
        have HZZ : Hid (∀ p ∈ Z, p.2 ≤ 20) := by rw [hZ]; exact fun p hp => HMZ.out p (line_mem.1 hp).1
        have HZN : Hid (∀ p ∈ Z, -2147483647 ≤ p.1 ∧ p.1 ≤ 2147483647) := by rw [hZ]; exact fun p hp => HRT.out.nums p (by rw [← HM.out]; exact (line_mem.1 hp).1)
        have HZD : Hid ((Z.map (·.1)).Nodup) := by
          have h1 := HRT.out.keys
          rw [← HM.out] at h1
          rw [hZ]
          exact ((line_perm HMZ.out).map _).nodup_iff.2 h1
        have HZP : Hid (posOf Z = posOf M) := by rw [hZ]; exact posOf_perm (line_perm HMZ.out)
        clear hZ
        go_loopw [38] (fun iv wx => ∃ d s : Nat, iv = .int .i64 (d : Int) ∧ d ≤ i ∧ s ≤ 20 ∧ (∀ p ∈ Z.take d, p.2 ≤ s) ∧ (∀ p ∈ Z.drop d, s ≤ p.2) ∧ posOf (Z.take d) ≤ 2 ^ 20 ∧ Nst w wx pc pn bw bn (Z.take d) s ∧ EntsAt wx (some ⟨g, 0, none⟩) Z) (fun iv _ => i - (intOf iv).toNat)
        case atStart => exact ⟨0, 0, rfl, by omega, by omega, by simp, by simp, by simp [posOf], HST5.out, HE5.out⟩
        case round =>
          clear HST5 HE5
          obtain ⟨d, s, rfl, hdi, hs20, hlow, hhigh, hfit, hst, hen⟩ := hrel
          have HLO := Lib.hid hlow
          have HHI := Lib.hid hhigh
          have HFI := Lib.hid hfit
          have HST := Lib.hid hst
          have HEN := Lib.hid hen
          have hnl := next_le hs20 hlow hfit
          clear hlow hhigh hfit hst hen
          by_cases hlt : d < i
          · have hdl : d < Z.length := by rw [HZL.out]; exact hlt
            obtain ⟨b0, o0, hb0, _, h0, h1⟩ := EntsAt.item (w := wr) (l := Z) HEN.out hdl
            injection hb0 with hb0
            injection hb0 with hb1 hb2
            subst hb1 hb2
            obtain ⟨⟨x, z⟩, hxz⟩ : ∃ q, q = Z.getD d (0, 0) := ⟨_, rfl⟩
            have hget : Z[d]? = some (x, z) := by rw [hxz, List.getD_eq_getElem?_getD, List.getElem?_eq_getElem hdl]; rfl
            have HTK : Hid (Z.take (d + 1) = Z.take d ++ [(x, z)]) := by show _ = _; rw [List.take_add_one, hget]; rfl
            have hmem : (x, z) ∈ Z := List.mem_of_getElem? hget
            have hsz : s ≤ z := HHI.out (x, z) (by rw [List.drop_eq_getElem_cons hdl]; rw [List.getElem?_eq_getElem hdl] at hget; injection hget with hget; rw [hget]; simp)
            have hz20 : z ≤ 20 := HZZ.out (x, z) hmem
            have HXN := Lib.hid (HZN.out (x, z) hmem)
            rw [← hxz] at h0 h1
            simp only [Nat.zero_add] at h0 h1
            have HJP := Lib.hid (next_jump hsz hz20 HLO.out)
            have hpw : (2 : Nat) ^ s ≤ 2 ^ 20 := Nat.pow_le_pow_right (by omega) hs20
            obtain ⟨nb, hnb⟩ : ∃ nb, nb = nextOf (Z.take d) s := ⟨_, rfl⟩
            rw [← hnb] at HJP hnl
            obtain ⟨k, hk⟩ : ∃ k, k = z - s := ⟨_, rfl⟩
            have hki : (z : Int) - (s : Int) = (k : Int) := by omega
            rw [← hk] at HJP
            have hk20 : k ≤ 20 := by omega
            have hd0 : (d : Int) < (i : Int) := by omega
            have hnb2 : nb ≤ 1048576 := by omega
            have HSA := Lib.hid (HST.out.next ((Keeps.refl (fun _ => False) wr).alloc (.cells #[.int .i64 x, .int .i64 (z : Int)] 87)))
            have HEA : Hid (EntsAt (wr.alloc (.cells #[.int .i64 x, .int .i64 (z : Int)] 87)) (some ⟨g, 0, none⟩) Z) := RowAt.keeps HEN.out ((Keeps.refl (fun _ => False) wr).alloc _) (fun _ _ _ => id)
            have HPX := Lib.hid (Blk.new wr 87 #[.int .i64 x, .int .i64 (z : Int)])
            have HPL := Lib.hid (show bw < wr.heap.size ∧ bn < wr.heap.size ∧ pc < wr.heap.size ∧ pn < wr.heap.size from ⟨HST.out.mw.lt, HST.out.mn.lt, HST.out.code.lt, HST.out.nxt.lt⟩)
            clear hxz hget hmem hdl hlt
            go_upto_region 15 with fail
            obtain ⟨wa, hwa⟩ : ∃ wa, wa = wr.alloc (.cells #[.int .i64 x, .int .i64 (z : Int)] 87) := ⟨_, rfl⟩
            obtain ⟨px, hpx⟩ : ∃ px, px = wr.heap.size := ⟨_, rfl⟩
            rw [← hwa, ← hpx] at HPX
            rw [← hwa] at HSA HEA
            rw [← hpx] at HPL
            rw [← hwa, ← hpx]
            clear hwa hpx h0 h1 HST HEN
            have hpnx : pn ≠ px := by have := HPL.out; omega
            have hc0 : wa.cell? ⟨pn, 0, none⟩ = some (.int .u32 (nb : Int)) := by rw [hnb]; exact HSA.out.nxt.cell 0
            have hc1 : wa.cell? ⟨pn, 1, none⟩ = some (.int .i64 (s : Int)) := HSA.out.nxt.cell 1
            have hf0 := HSA.out.nxt.frozen 0
            have hf1 := HSA.out.nxt.frozen 1
            have hx0 : wa.cell? ⟨px, 0, none⟩ = some (.int .i64 x) := HPX.out.cell 0
            have hx1 : wa.cell? ⟨px, 1, none⟩ = some (.int .i64 (z : Int)) := HPX.out.cell 1
            clear hnb
            obtain ⟨nz, hnz⟩ : ∃ nz, nz = nextOf (Z.take d) z := ⟨_, rfl⟩
            have hlz : ∀ p ∈ Z.take d, p.2 ≤ z := fun p hp => Nat.le_trans (HLO.out p hp) hsz
            have hnz2 : nz ≤ 2 ^ z := by rw [hnz]; exact next_le hz20 hlz HFI.out
            have hpz : (2 : Nat) ^ z ≤ 2 ^ 20 := Nat.pow_le_pow_right (by omega) hz20
            have hval : (nb : Int) * 2 ^ k % 4294967296 = (nz : Int) := by
              have e : ((nb : Int) * 2 ^ k) = ((nz : Nat) : Int) := by
                rw [hnz, HJP.out]
                simp
              rw [e]
              omega
            have HNZ := Lib.hid hnz
            have HLZ := Lib.hid hlz
            have hnz3 : nz ≤ 1048576 := by omega
            have hpw2 : IntKind.u32.wrap ((2 : Int) ^ z) = ((2 ^ z : Nat) : Int) := by
              have e : ((2 : Int) ^ z) = ((2 ^ z : Nat) : Int) := by simp
              rw [e]
              generalize 2 ^ z = q at hpz ⊢
              simp [IntKind.wrap, IntKind.bits, IntKind.signed]
              omega
            have HSB : Hid (Nst w ((wa.setCell ⟨pn, 0, none⟩ (.int .u32 (nz : Int))).setCell ⟨pn, 1, none⟩ (.int .i64 (z : Int))) pc pn bw bn (Z.take d) z) := by
              have h1 := HSA.out.set HNE.out nz z
              rw [hnz] at h1 ⊢
              exact h1
            have HKB : Hid (Keeps (· = pn) wa ((wa.setCell ⟨pn, 0, none⟩ (.int .u32 (nz : Int))).setCell ⟨pn, 1, none⟩ (.int .i64 (z : Int)))) := ((Keeps.refl _ _).setOwn 0 _).setOwn 1 _
            clear hnz hlz hnl hk
            go_upto_region 17 with fail
            try rw [hval]
            obtain ⟨wb, hwb⟩ : ∃ wb, wb = (wa.setCell ⟨pn, 0, none⟩ (.int .u32 (nz : Int))).setCell ⟨pn, 1, none⟩ (.int .i64 (z : Int)) := ⟨_, rfl⟩
            rw [← hwb] at HSB HKB ⊢
            have HPB := Lib.hid (HPX.out.keeps HKB.out (Ne.symm hpnx))
            have HEB : Hid (EntsAt wb (some ⟨g, 0, none⟩) Z) := RowAt.keeps HEA.out HKB.out (fun b o e h => HGN.out.1 (by injection e with e; injection e with e; rw [e]; exact h))
            clear hwb hc0 hc1 hf0 hf1 hx0 hx1 HSA HEA HPX HKB hval
            have hc0 : wb.cell? ⟨pn, 0, none⟩ = some (.int .u32 (nz : Int)) := by rw [HNZ.out]; exact HSB.out.nxt.cell 0
            have hc1 : wb.cell? ⟨pn, 1, none⟩ = some (.int .i64 (z : Int)) := HSB.out.nxt.cell 1
            by_cases hfit : nz < 2 ^ z
            · have hge : ¬ (((2 ^ z : Nat) : Int) ≤ (nz : Int)) := by omega
              have hgb : decide ((2 : Int) ^ z ≤ (nz : Int)) = false := by
                rw [decide_eq_false_iff_not]
                have e : ((2 : Int) ^ z) = ((2 ^ z : Nat) : Int) := by simp
                rw [e]
                omega
              go_big_region
              have HSD := Lib.hid (HSB.out.next ((Keeps.refl (fun _ => False) wb).drewN 1))
              have HPD := Lib.hid (HPB.out.keeps ((Keeps.refl (fun _ => False) wb).drewN 1) id)
              have HED : Hid (EntsAt (wb.drewN 1) (some ⟨g, 0, none⟩) Z) := RowAt.keeps HEB.out ((Keeps.refl (fun _ => False) wb).drewN 1) (fun _ _ _ => id)
              go_upto_region 19 with fail
              change Hid (Nst w wb.drew pc pn bw bn (Z.take d) z) at HSD
              change Hid (Blk wb.drew px 87 #[.int .i64 x, .int .i64 (z : Int)]) at HPD
              change Hid (EntsAt wb.drew (some ⟨g, 0, none⟩) Z) at HED
              clear HSB HPB HEB hc0 hc1
              generalize wb.drew = wd at HSD HPD HED ⊢
              have hx0 : wd.cell? ⟨px, 0, none⟩ = some (.int .i64 x) := HPD.out.cell 0
              have hp0 : wd.cell? ⟨pc, 0, none⟩ = some (.map (some bw)) := HSD.out.code.cell 0
              have hc0 : wd.cell? ⟨pn, 0, none⟩ = some (.int .u32 (nz : Int)) := by rw [HNZ.out]; exact HSD.out.nxt.cell 0
              have hc1 : wd.cell? ⟨pn, 1, none⟩ = some (.int .i64 (z : Int)) := HSD.out.nxt.cell 1
              have hdl : (asg 0 (Z.take d)).length ≤ 1000 := by rw [asg_len, List.length_take]; omega
              have hxnew : x ∉ (asg 0 (Z.take d)).map (·.1) := by
                have h1 := HZD.out
                rw [← List.take_append_drop (d + 1) Z, HTK.out, List.map_append, List.map_append, List.nodup_append] at h1
                have h2 := h1.1
                rw [List.nodup_append] at h2
                have e : (asg 0 (Z.take d)).map (·.1) = (Z.take d).map (·.1) := by
                  conv => rhs; rw [← asg_keys 0 (Z.take d)]
                  rw [List.map_map]
                  rfl
                rw [e]
                exact fun hm => absurd rfl (h2.2.2 x hm x (by simp))
              obtain ⟨w4, hrun, hs4, hk4⟩ := (HSD.out.next ((Keeps.refl (fun _ => False) wd).drewN 1)).storeW HNE.out HXN.out hxnew hdl
              rw [← HNZ.out] at hrun hs4
              change (Instr.mapUpdate 146 (.map (some bw)) (.int .i64 x) (.agg #[.int .u32 (nz : Int), .int .i64 (z : Int)])).run Tryz.prog wd.drew = _ at hrun
              have HS4 := Lib.hid hs4
              have HKD := Lib.hid (((Keeps.refl (fun _ => False) wd).drewN 1))
              have HP4 := Lib.hid ((HPD.out.keeps HKD.out id).keeps hk4 (by have := HPL.out; omega))
              have HE4 : Hid (EntsAt w4 (some ⟨g, 0, none⟩) Z) := RowAt.keeps (RowAt.keeps HED.out HKD.out (fun _ _ _ => id)) hk4 (fun b o e h => HGN.out.2.1 (by injection e with e; injection e with e; rw [e]; exact h))
              clear hs4 hk4 hxnew
              go_big_region
              go_wp2_with fail
              clear hrun hx0 hp0 hc0 hc1 HSD HPD HED HKD
              have hx0 : w4.cell? ⟨px, 0, none⟩ = some (.int .i64 x) := HP4.out.cell 0
              have hp1 : w4.cell? ⟨pc, 1, none⟩ = some (.map (some bn)) := HS4.out.code.cell 1
              have hc0 : w4.cell? ⟨pn, 0, none⟩ = some (.int .u32 (nz : Int)) := HS4.out.nxt.cell 0
              have hc1 : w4.cell? ⟨pn, 1, none⟩ = some (.int .i64 (z : Int)) := HS4.out.nxt.cell 1
              have hsn : (Z.take d ++ [(x, z)]).Pairwise (fun a b => a.2 ≤ b.2) := by
                rw [← HTK.out]
                exact HZS.out.sublist (List.take_sublist _ _)
              have hwn : ∀ t ∈ asg 0 (Z.take d), t.2.2 < 4294967296 ∧ t.2.1 ≤ 20 := by
                intro t ht
                have h1 := (asg_spec 0 (Z.take d) (HZS.out.sublist (List.take_sublist _ _)) (fun _ _ => Nat.dvd_zero _)).1 t ht
                have h2 : (t.1, t.2.1) ∈ Z.take d := by
                  rw [← asg_keys 0 (Z.take d)]
                  exact List.mem_map.2 ⟨t, ht, rfl⟩
                have h3 := HZZ.out _ (List.mem_of_mem_take h2)
                have h4 := h1.2
                have h5 := HFI.out
                unfold beg at h4
                have h6 := Nat.two_pow_pos (20 - t.2.1)
                have h7 : t.2.2 * 1 ≤ t.2.2 * 2 ^ (20 - t.2.1) := Nat.mul_le_mul_left _ h6
                exact ⟨by omega, h3⟩
              obtain ⟨w5, hrun, hs5, hk5⟩ := (HS4.out.next ((Keeps.refl (fun _ => False) w4).drewN 1)).storeN HNE.out x (by omega) hz20 (by rw [HNZ.out]; exact word_new hsn) hwn hdl
              change (Instr.mapUpdate 147 (.map (some bn)) (.agg #[.int .u32 (nz : Int), .int .i64 (z : Int)]) (.int .i64 x)).run Tryz.prog w4.drew = _ at hrun
              have HS5 := Lib.hid hs5
              have HKD := Lib.hid (((Keeps.refl (fun _ => False) w4).drewN 1))
              have HE5 : Hid (EntsAt w5 (some ⟨g, 0, none⟩) Z) := RowAt.keeps (RowAt.keeps HE4.out HKD.out (fun _ _ _ => id)) hk5 (fun b o e h => HGN.out.2.2 (by injection e with e; injection e with e; rw [e]; exact h))
              clear hs5 hk5 hsn hwn
              go_big_region
              go_upto_region 21 with fail
              clear hrun hx0 hp1 hc0 hc1 HS4 HP4 HE4 HKD
              have hc0 : w5.cell? ⟨pn, 0, none⟩ = some (.int .u32 (nz : Int)) := HS5.out.nxt.cell 0
              have hf0 := HS5.out.nxt.frozen 0
              have hinc : IntKind.u32.wrap ((nz : Int) + 1) = ((nz + 1 : Nat) : Int) := by
                simp [IntKind.wrap, IntKind.bits, IntKind.signed]
                omega
              have HS6 := Lib.hid (HS5.out.set0 HNE.out (nz + 1))
              have HE6 : Hid (EntsAt (w5.setCell ⟨pn, 0, none⟩ (.int .u32 ((nz + 1 : Nat) : Int))) (some ⟨g, 0, none⟩) Z) := RowAt.keeps HE5.out ((Keeps.refl (· = pn) w5).setOwn 0 _) (fun b o e h => HGN.out.1 (by injection e with e; injection e with e; rw [e]; exact h))
              go_wp2
              refine ⟨⟨d + 1, z, by go_num, by omega, hz20, ?_, ?_, ?_, ?_, ?_⟩, by simp [intOf]; omega⟩
              · rw [HTK.out]
                intro p hp
                rcases List.mem_append.1 hp with hp | hp
                · exact HLZ.out p hp
                · rw [List.mem_singleton] at hp
                  rw [hp]
                  exact Nat.le_refl _
              · intro p hp
                have h1 := HZS.out
                rw [← List.take_append_drop (d + 1) Z, List.pairwise_append] at h1
                exact h1.2.2 (x, z) (by rw [HTK.out]; simp) p hp
              · rw [HTK.out]
                exact fits_more hz20 HLZ.out x ((next_fits hz20 HLZ.out).1 (by rw [← HNZ.out]; exact hfit))
              · rw [HTK.out]
                show Nsm _ _ _ _ _ _ (nextOf (Z.take d ++ [(x, z)]) z) z _ _
                rw [next_more HLZ.out, ← HNZ.out, asg_snoc, ← HNZ.out]
                have h1 := HS6.out
                simpa using h1
              · have h1 := HE6.out
                simpa using h1
            · have hge : (2 : Int) ^ z ≤ (nz : Int) := by
                have e : ((2 : Int) ^ z) = ((2 ^ z : Nat) : Int) := by simp
                rw [e]
                omega
              have hgb : decide ((2 : Int) ^ z ≤ (nz : Int)) = true := by simpa using hge
              go_big_region
              all_goals go_wp2
              all_goals go_ret2
              refine ⟨.inr (.inr (.inl ⟨by rw [HN.out]; exact ⟨hm1, hm2⟩, fun j hj => HOK.out j (by rw [← HN.out]; exact hj), ?_, rfl⟩)), HSB.out.keeps.drewN 1⟩
              rw [← HM.out, ← HZP.out, ← List.take_append_drop (d + 1) Z, posOf_app, HTK.out, posOf_app, posOf_one]
              have h1 : ¬ posOf (Z.take d) < 2 ^ 20 := fun h => hfit (by rw [HNZ.out]; exact (next_fits hz20 HLZ.out).2 h)
              have h2 := Nat.two_pow_pos (20 - z)
              simp only
              omega
          · obtain rfl : d = i := by omega
            go_wp2
            go_ret2
            have hst := HST.out
            have hfi := HFI.out
            rw [List.take_of_length_le (by rw [HZL.out]; exact Nat.le_refl _)] at hst hfi
            refine ⟨.inr (.inr (.inr ⟨by rw [HN.out]; exact ⟨hm1, hm2⟩, fun j hj => HOK.out j (by rw [← HN.out]; exact hj), ?_, pc, rfl, bw, bn, hst.code, ?_, ?_, HNE.out.low.2.2.1, HNE.out.low.1, HNE.out.low.2.1⟩)), hst.keeps⟩
            · rw [← HM.out, ← HZP.out]
              exact hfi
            · have h1 := hst.mw
              rw [← HM.out]
              unfold wordsOf
              rw [← HZ.out]
              exact h1
            · have h1 := hst.mn
              rw [← HM.out]
              unfold wordsOf
              rw [← HZ.out]
              exact h1
end Go.Proofs.YtgaofnmgdefdcaaGreatDoor.Hk
