/- A Quill behind each deed: codes kept, a block laid, something put into a block or into the row of bits. Names no function of the program. -/
/- slices.Sorted(maps.Keys(m)) of maps by numbers: their numbers, rising, in a row of its own; of a nil map none. No conditions. -/
import Derived.Test.YtgaofnmgdefdcaaGreatDoorJBitWQQlSt
import Derived.Test.YtgaofnmgdefdcaaGreatDoorJQlHdChMp
import Derived.Test.YtgaofnmgdefdcaaGreatDoorSrtShelf

namespace Go.Proofs.YtgaofnmgdefdcaaGreatDoor.Qs
open Go.RowKit Go.Proofs.YtgaofnmgdefdcaaGreatDoor.Gen Go.Proofs.YtgaofnmgdefdcaaGreatDoor.Mp Go.Proofs.YtgaofnmgdefdcaaGreatDoor.Cm Go.Proofs.YtgaofnmgdefdcaaGreatDoor.Hr Go.Proofs.YtgaofnmgdefdcaaGreatDoor.Hn Go.Proofs.YtgaofnmgdefdcaaGreatDoor.Hk Go.Proofs.YtgaofnmgdefdcaaGreatDoor.Ln Go.Proofs.YtgaofnmgdefdcaaGreatDoor.Ds Go.Proofs.YtgaofnmgdefdcaaGreatDoor.Qh Go.Proofs.YtgaofnmgdefdcaaGreatDoor.Ww

section
variable {F Fb Fc Fb' Fc' S : Nat → Prop} {B g N N' : Nat} {v v' mb mc mb' mc' : Value} {l l' : List Nat} {G G' : Gs} {w w1 : World} {last o : Nat}
theorem own_not_g (h : Bq.IsBw mb mc 0 g v l w) : ∀ k, v.ownBlock = some k → k ≠ g := by
  obtain ⟨xs, last, o, h, _⟩ := h
  exact h.ne
theorem QlAt.ing (h : QlAt F Fb Fc B g v mb mc l G N w) : F g ∧ ¬ Fb g ∧ ¬ Fc g := ⟨(h.all g).2 (.inl (.inl rfl)), h.ab g (.inl rfl)⟩
/-- Codes have been kept. -/
theorem QlAt.kept' (h : QlAt F Fb Fc B g v mb mc l G N w) (hB : B ≤ w.heap.size)
    (hr : ∀ S w1 mb' mc', Keeps S w w1 → (∀ k, v.ownBlock = some k → ¬ S k) → Blk w1 g 77 #[v, .int .u64 last, .int .i64 o, mb', mc'] → Bq.IsBw mb' mc' 0 g v l w1)
    (hb : Blk w1 g 77 #[v, .int .u64 last, .int .i64 o, mb, mc']) (hg : ¬ Fc' g) (hk : Kept Fc' N' mc' w1) (hs : Step (fun k => k = g ∨ Fc k) (fun k => k = g ∨ Fc' k) w w1) :
    QlAt (fun k => Bw.Its g v k ∨ Fb k ∨ Fc' k) Fb Fc' B g v mb mc' l G N' w1 ∧ Step F (fun k => Bw.Its g v k ∨ Fb k ∨ Fc' k) w w1 := by
  have hsub : ∀ k, Fc' k → Fc k ∨ w.heap.size ≤ k := fun k hk => by
    rcases hs.sub k (.inr hk) with (rfl | h1) | h1
    · exact absurd hk hg
    · exact .inl h1
    · exact .inr h1
  have hlow : ∀ k, Fc' k → B ≤ k := fun k hk => (hsub k hk).elim (fun h1 => h.low k ((h.all k).2 (.inr (.inr h1)))) (Nat.le_trans hB)
  refine ⟨⟨hr _ w1 mb mc' hs.keeps (fun k hv hS => ?_) hb, h.wms.keeps hs.keeps fun k hk hS => ?_, hk, fun k hk => ⟨(h.ab k hk).1, fun hc => ?_⟩, fun k hk hc => ?_, fun k => Iff.rfl, fun k hk => ?_⟩, ⟨hs.keeps.mono fun k _ hS => ?_, fun k hk => ?_⟩⟩
  · rcases hS with e | e
    · exact own_not_g h.row k hv e
    · exact (h.ab k (.inr hv)).2 e
  · rcases hS with rfl | e
    · exact h.ing.2.1 hk
    · exact h.bc k hk e
  · rcases hsub k hc with h1 | h1
    · exact (h.ab k hk).2 h1
    · have := (h.row.its k hk).2
      omega
  · rcases hsub k hc with h1 | h1
    · exact h.bc k hk h1
    · have := h.wms.1 k hk
      omega
  · rcases hk with hk | hk | hk
    · exact h.low k ((h.all k).2 (.inl hk))
    · exact h.low k ((h.all k).2 (.inr (.inl hk)))
    · exact hlow k hk
  · rcases hS with rfl | e
    · exact h.ing.1
    · exact (h.all k).2 (.inr (.inr e))
  · rcases hk with hk | hk | hk
    · exact .inl ((h.all k).2 (.inl hk))
    · exact .inl ((h.all k).2 (.inr (.inl hk)))
    · exact (hsub k hk).imp (fun h1 => (h.all k).2 (.inr (.inr h1))) id
/-- Blocks have been laid, or put into. -/
theorem QlAt.wms' (h : QlAt F Fb Fc B g v mb mc l G N w) (hB : B ≤ w.heap.size)
    (hr : ∀ S w1 mb' mc', Keeps S w w1 → (∀ k, v.ownBlock = some k → ¬ S k) → Blk w1 g 77 #[v, .int .u64 last, .int .i64 o, mb', mc'] → Bq.IsBw mb' mc' 0 g v l w1)
    (hb : Blk w1 g 77 #[v, .int .u64 last, .int .i64 o, mb', mc]) (hg : ¬ Fb' g) (hk : Wms Fb' mb' G' w1) (hs : Step (fun k => k = g ∨ Fb k) (fun k => k = g ∨ Fb' k) w w1) :
    QlAt (fun k => Bw.Its g v k ∨ Fb' k ∨ Fc k) Fb' Fc B g v mb' mc l G' N w1 ∧ Step F (fun k => Bw.Its g v k ∨ Fb' k ∨ Fc k) w w1 := by
  have hsub : ∀ k, Fb' k → Fb k ∨ w.heap.size ≤ k := fun k hk => by
    rcases hs.sub k (.inr hk) with (rfl | h1) | h1
    · exact absurd hk hg
    · exact .inl h1
    · exact .inr h1
  have hlow : ∀ k, Fb' k → B ≤ k := fun k hk => (hsub k hk).elim (fun h1 => h.low k ((h.all k).2 (.inr (.inl h1)))) (Nat.le_trans hB)
  refine ⟨⟨hr _ w1 mb' mc hs.keeps (fun k hv hS => ?_) hb, hk, h.kept.keeps hs.keeps fun k hk hS => ?_, fun k hk => ⟨fun hc => ?_, (h.ab k hk).2⟩, fun k hc hk => ?_, fun k => Iff.rfl, fun k hk => ?_⟩, ⟨hs.keeps.mono fun k _ hS => ?_, fun k hk => ?_⟩⟩
  · rcases hS with e | e
    · exact own_not_g h.row k hv e
    · exact (h.ab k (.inr hv)).1 e
  · rcases hS with rfl | e
    · exact h.ing.2.2 hk
    · exact h.bc k e hk
  · rcases hsub k hc with h1 | h1
    · exact (h.ab k hk).1 h1
    · have := (h.row.its k hk).2
      omega
  · rcases hsub k hc with h1 | h1
    · exact h.bc k h1 hk
    · have := h.kept.1 k hk
      omega
  · rcases hk with hk | hk | hk
    · exact h.low k ((h.all k).2 (.inl hk))
    · exact hlow k hk
    · exact h.low k ((h.all k).2 (.inr (.inr hk)))
  · rcases hS with rfl | e
    · exact h.ing.1
    · exact (h.all k).2 (.inr (.inl e))
  · rcases hk with hk | hk | hk
    · exact .inl ((h.all k).2 (.inl hk))
    · exact (hsub k hk).imp (fun h1 => (h.all k).2 (.inr (.inl h1))) id
    · exact .inl ((h.all k).2 (.inr (.inr hk)))
/-- Something is put into a block that is there. -/
theorem QlAt.put' {i gi : Nat} {vi : Value} {ys zs : List Int} {r : Ending} (h : QlAt F Fb Fc B g v mb mc l G N w) (hB : B ≤ w.heap.size) (hG : G i = some (gi, vi, ys)) (hp : Puts 0 gi vi zs w r w1) :
    ∃ F' v', Ql F' B g l (pu G i (gi, v', zs)) N w1 ∧ Step F F' w w1 := by
  obtain ⟨last, o, hb, hr⟩ := row_cells h.row
  rcases h.wms.2 with ⟨_, hn⟩ | ⟨b, rfl, hm⟩
  · rw [hn i] at hG
    cases hG
  · obtain ⟨v', hm', hs⟩ := hm.put h.wms.1 hG hp
    have hgl := hb.lt
    have hng : ¬ (fun k => Fb k ∨ (w.heap.size ≤ k ∧ k < w1.heap.size)) g := fun e => e.elim h.ing.2.1 fun e => by omega
    have hs' : Step (fun k => k = g ∨ Fb k) (fun k => k = g ∨ (Fb k ∨ (w.heap.size ≤ k ∧ k < w1.heap.size))) w w1 :=
      ⟨hs.keeps.mono fun k _ e => .inr e, fun k hk => hk.elim (fun e => .inl (.inl e)) fun e => (hs.sub k e).imp .inr id⟩
    have hwm : Wms (fun k => Fb k ∨ (w.heap.size ≤ k ∧ k < w1.heap.size)) (.map (some b)) (pu G i (gi, v', zs)) w1 :=
      ⟨fun k hk => hk.elim (fun e => Nat.lt_of_lt_of_le (h.wms.1 k e) hs.keeps.size) fun e => e.2, .inr ⟨b, rfl, hm'⟩⟩
    obtain ⟨h1, h2⟩ := h.wms' hB hr (hb.keeps hs.keeps h.ing.2.1) hng hwm hs'
    exact ⟨_, v', ⟨_, _, _, _, _, h1⟩, h2⟩
/-- Bits are put into the row. -/
theorem QlAt.row' (h : QlAt F Fb Fc B g v mb mc l G N w) (hB : B ≤ w.heap.size) (hr : Bq.IsBw mb mc 0 g v' l' w1) (hm : Bw.Moves g v v' w w1) : ∃ F', Ql F' B g l' G N w1 ∧ Step F F' w w1 := by
  have hits : ∀ k, Bw.Its g v' k → Bw.Its g v k ∨ w.heap.size ≤ k := by
    rintro k (rfl | hk)
    · exact .inl (.inl rfl)
    · rcases hm.at_ with e | ⟨b, e, hb⟩
      · exact .inl (.inr (e ▸ hk))
      · rw [e] at hk
        injection hk with hk
        subst hk
        exact .inr hb
  have hFb := h.wms.1
  have hFc := h.kept.1
  refine ⟨fun k => Bw.Its g v' k ∨ Fb k ∨ Fc k, ⟨Fb, Fc, v', mb, mc, hr, h.wms.keeps hm.keeps fun k hk e => (h.ab k e).1 hk, h.kept.keeps hm.keeps fun k hk e => (h.ab k e).2 hk, fun k hk => ?_, h.bc, fun k => Iff.rfl, fun k hk => ?_⟩, ⟨hm.keeps.mono fun k _ e => (h.all k).2 (.inl e), fun k hk => ?_⟩⟩
  · rcases hits k hk with h1 | h1
    · exact h.ab k h1
    · exact ⟨fun e => by have := hFb k e; omega, fun e => by have := hFc k e; omega⟩
  · rcases hk with hk | hk | hk
    · rcases hits k hk with h1 | h1
      · exact h.low k ((h.all k).2 (.inl h1))
      · exact Nat.le_trans hB h1
    · exact h.low k ((h.all k).2 (.inr (.inl hk)))
    · exact h.low k ((h.all k).2 (.inr (.inr hk)))
  · rcases hk with hk | hk | hk
    · exact (hits k hk).imp (fun e => (h.all k).2 (.inl e)) id
    · exact .inl ((h.all k).2 (.inr (.inl hk)))
    · exact .inl ((h.all k).2 (.inr (.inr hk)))
end
end Go.Proofs.YtgaofnmgdefdcaaGreatDoor.Qs

namespace Go.Proofs.YtgaofnmgdefdcaaGreatDoor.Qk
open Go.RowKit Go.Maps Go.Sort Go.Shelf Go.Proofs.YtgaofnmgdefdcaaGreatDoor.Gen Go.Proofs.YtgaofnmgdefdcaaGreatDoor.Mp Go.Proofs.YtgaofnmgdefdcaaGreatDoor.Cm

theorem sortsA (m : Nat) : AnyZI.SortsIn Tryz.prog Tryz.sortedA_ren Fence.wide m :=
  ⟨fun blk off cap ss W hH hblk hsz => callsIn_wide.2 (AnyM.slices_Sort_int Tryz.sortA blk off cap ss W hH hblk hsz),
   fun p cap W => callsIn_wide.2 (AnyM.slices_Sort_int_none Tryz.sortA p cap W)⟩

/-- The numbers that a function of numbers has something at, rising. -/
def nums (val : Nat → Option Value) (N : Nat) : List Nat := (List.range N).filter fun i => (val i).isSome
def numZ (val : Nat → Option Value) (N : Nat) : List Int := (nums val N).map fun i : Nat => (i : Int)
theorem nums_mem {val : Nat → Option Value} {N i : Nat} : i ∈ nums val N ↔ i < N ∧ val i ≠ none := by
  simp only [nums, List.mem_filter, List.mem_range, Option.isSome_iff_ne_none]
theorem nums_rise (val : Nat → Option Value) (N : Nat) : (nums val N).Pairwise (· < ·) := List.Pairwise.filter _ List.pairwise_lt_range
theorem numZ_rise (val : Nat → Option Value) (N : Nat) : (numZ val N).Pairwise (fun x y => x < y) := by
  rw [numZ, List.pairwise_map]
  exact (nums_rise val N).imp fun h => by omega
theorem numZ_nodup (val : Nat → Option Value) (N : Nat) : (numZ val N).Nodup := (numZ_rise val N).imp fun h => by omega
theorem sorted_one : ∀ {l m : List Int}, l.Perm m → l.Pairwise (· ≤ ·) → m.Pairwise (· ≤ ·) → l = m
  | [], m, h, _, _ => h.nil_eq
  | x :: l, [], h, _, _ => by simpa using h.length_eq
  | x :: l, y :: m, h, hl, hm => by
    have h1 : y ∈ x :: l := h.mem_iff.2 (by simp)
    have h2 : x ∈ y :: m := h.mem_iff.1 (by simp)
    have e : x = y := by
      rcases List.mem_cons.1 h1 with h1 | h1
      · exact h1.symm
      · rcases List.mem_cons.1 h2 with h2 | h2
        · exact h2
        · have a := (List.pairwise_cons.1 hl).1 y h1
          have b := (List.pairwise_cons.1 hm).1 x h2
          omega
    subst e
    rw [sorted_one h.cons_inv (List.pairwise_cons.1 hl).2 (List.pairwise_cons.1 hm).2]
theorem merge_sorted {ss : List Int} : (ss.mergeSort fun x y => decide (x ≤ y)).Pairwise (· ≤ ·) := by
  have h := List.pairwise_mergeSort (le := fun x y : Int => decide (x ≤ y)) (by intro a b c; simp; omega) (by intro a b; simp; omega) ss
  exact h.imp fun h => by simpa using h

/-- A datum's keys are those of the entries that it reads as. -/
theorem keys_perm {D : DataW Value} {m : List (Lit × Value)} (h : Reads D m) : (intKeys D).Perm (m.map fun p => Go.intOf p.1) := by
  obtain ⟨es, rfl, hp⟩ := h.tidy
  have hs : es.length = m.length := by have := h.size; simpa [Maps.size] using this
  have hsub : ∀ x ∈ m.map (·.1), x ∈ es.map (·.1) := by
    intro x hx
    have h1 := (h.has x).2 hx
    simp only [Maps.has, List.any_eq_true] at h1
    obtain ⟨p, hp, hq⟩ := h1
    rw [← WideAt.sameKey_eq hq]
    exact List.mem_map.2 ⟨p, hp, rfl⟩
  obtain ⟨R, hR⟩ := nodup_sub h.nd hsub
  have hl := hR.length_eq
  simp only [List.length_append, List.length_map] at hl
  have hR0 : R = [] := List.eq_nil_of_length_eq_zero (by omega)
  rw [hR0, List.append_nil] at hR
  have := hR.map Go.intOf
  simpa [intKeys, List.map_map, Function.comp_def] using this
theorem keys_num {kl : Nat → Lit} {N : Nat} {val : Nat → Option Value} {m : List (Lit × Value)} (K : ∀ i, i < N → Go.intOf (kl i) = (i : Int)) (hd : (m.map (·.1)).Nodup) (h : Fm kl N val m) (hk : ∀ i, i < N → (kl i ∈ m.map (·.1) ↔ val i ≠ none)) : (m.map fun p => Go.intOf p.1).Perm (numZ val N) := by
  refine nodup_all ?_ (numZ_nodup val N) ?_ ?_
  · have hinj : ∀ p ∈ m, ∀ q ∈ m, Go.intOf p.1 = Go.intOf q.1 → p.1 = q.1 := by
      intro p hp q hq e
      obtain ⟨i, hi, e1, _⟩ := h.sub p hp
      obtain ⟨j, hj, e2, _⟩ := h.sub q hq
      rw [e1, e2, K i hi, K j hj] at e
      have : i = j := by omega
      rw [e1, e2, this]
    have hmm : (m.map fun p => Go.intOf p.1) = (m.map (·.1)).map Go.intOf := by simp
    rw [hmm, List.Nodup, List.pairwise_map]
    refine List.Pairwise.imp_of_mem ?_ hd
    intro a b ha hb hab e
    obtain ⟨p, hp, rfl⟩ := List.mem_map.1 ha
    obtain ⟨q, hq, rfl⟩ := List.mem_map.1 hb
    exact hab (hinj p hp q hq e)
  · intro x hx
    obtain ⟨p, hp, rfl⟩ := List.mem_map.1 hx
    obtain ⟨i, hi, e1, _⟩ := h.sub p hp
    refine List.mem_map.2 ⟨i, nums_mem.2 ⟨hi, (hk i hi).1 ?_⟩, by rw [e1, K i hi]⟩
    rw [← e1]
    exact List.mem_map.2 ⟨p, hp, rfl⟩
  · intro x hx
    obtain ⟨i, hi, rfl⟩ := List.mem_map.1 hx
    obtain ⟨h1, h2⟩ := nums_mem.1 hi
    obtain ⟨p, hp, e⟩ := List.mem_map.1 ((hk i h1).2 h2)
    exact List.mem_map.2 ⟨p, hp, by rw [e, K i h1]⟩
theorem sort_num {D : DataW Value} {ss : List Int} {kl : Nat → Lit} {N : Nat} {val : Nat → Option Value} {m : List (Lit × Value)} (hs : ss.Perm (intKeys D)) (hr : Reads D m) (K : ∀ i, i < N → Go.intOf (kl i) = (i : Int)) (h : Fm kl N val m) (hk : ∀ i, i < N → (kl i ∈ m.map (·.1) ↔ val i ≠ none)) :
    ss.mergeSort (fun x y => decide (x ≤ y)) = numZ val N :=
  sorted_one ((List.mergeSort_perm ss _).trans (hs.trans ((keys_perm hr).trans (keys_num K hr.nd h hk)))) merge_sorted ((numZ_rise val N).imp fun h => by omega)

/-- slices.Sorted of what maps.Keys has given, of a map that is there. -/
theorem sorted_of {ρK : Ren} {g : Nat} (LK : SlLaysZI.n10 Tryz.prog ρK) (hg : ρK.f 10 = g) (h26 : ρK.t 26 = 3) (eg : ∀ args w, (callFunc g args).run Tryz.prog w = .ok (.enter g args) w)
    {kl : Nat → Lit} {kv : Nat → Value} {N : Nat} (K : Ks Tryz.prog 3 N kv kl) (hK : ∀ i, i < N → Go.intOf (kl i) = (i : Int)) (hN : N ≤ 1000000) (Bm b : Nat) (val : Nat → Option Value) (w : World) (hBm : Bm < w.heap.size) (hm : w.cell? ⟨Bm, 0, none⟩ = some (.map (some b))) (h : IsF Tryz.prog 3 N kl w b val) :
    Calls Tryz.prog 43 #[.func (.func g) #[] #[.pointer (some ⟨Bm, 0, none⟩)]] w fun e w' => ∃ v, e = .returned v ∧ w'.ownsRow w.heap.size 3 1 v (nums val N).length ((numZ val N).map encZ) ∧ Keeps (fun _ => False) w w' := by
  refine (callsIn_wide (n := 5)).1 ?_
  obtain ⟨m, ⟨D, hown, hr⟩, hf⟩ := h
  have hM : IsM Tryz.prog 3 w b m := ⟨D, hown, hr⟩
  have hsz : Maps.size D = m.length := hr.size
  have hml := IsF.m_le K hM hf
  have hseq : SeqGives Fence.wide 2 Tryz.prog g #[.pointer (some ⟨Bm, 0, none⟩)] encZ (fun ss => ss.Perm (intKeys D)) (Maps.size D) w := by
    rw [← hg]
    exact AnyZI.keys_gives (ρ := ρK) LK Fence.wide _ trivial rfl (by omega) Bm b m.length D w hBm hm (by rw [h26]; exact hown)
  have cS := AnyZI.sorted_in Tryz.sortedA Fence.wide 5 trivial trivial trivial trivial rfl (by omega) (sortsA _) (enters_of Tryz.func69 (by kernel_rfl) rfl) g #[.pointer (some ⟨Bm, 0, none⟩)] trivial eg _ _ (by rw [hsz]; simp only [maxLen]; omega) (by rw [hsz]; omega) _ hseq
  change CallsIn _ _ Tryz.prog 43 _ _ _ at cS
  refine cS.mono ?_
  rintro e w' ⟨v, ss, rfl, hS, hrow, -, hb⟩
  have e1 := sort_num hS hr hK hf fun i hi => hf.keys K hi
  have e2 : ss.length = (nums val N).length := by
    have h1 := (List.mergeSort_perm ss (fun x y => decide (x ≤ y))).length_eq
    rw [e1] at h1
    simpa [numZ] using h1.symm
  refine ⟨v, rfl, ?_, Keeps.of_below hb⟩
  have hrow' : w'.ownsRow w.heap.size 3 1 v ss.length ((ss.mergeSort fun x y => decide (x ≤ y)).map encZ) := hrow
  rw [e1, e2] at hrow'
  exact hrow'
theorem sorted_nil_of {ρK : Ren} {g : Nat} (LK : SlLaysZI.n10 Tryz.prog ρK) (hg : ρK.f 10 = g) (eg : ∀ args w, (callFunc g args).run Tryz.prog w = .ok (.enter g args) w) (Bm : Nat) (w : World) (hBm : Bm < w.heap.size) (hm : w.cell? ⟨Bm, 0, none⟩ = some (.map none)) :
    Calls Tryz.prog 43 #[.func (.func g) #[] #[.pointer (some ⟨Bm, 0, none⟩)]] w fun e w' => e = .returned (.slice none 0 0) ∧ Keeps (fun _ => False) w w' := by
  refine (callsIn_wide (n := 5)).1 ?_
  have hseq : SeqGives Fence.wide 2 Tryz.prog g #[.pointer (some ⟨Bm, 0, none⟩)] encZ (fun ss : List Int => ss = []) 0 w := by
    rw [← hg]
    exact AnyZI.keys_gives_nil (ρ := ρK) LK Fence.wide _ trivial rfl Bm w hBm hm
  have cS := AnyZI.sorted_in Tryz.sortedA Fence.wide 5 trivial trivial trivial trivial rfl (by omega) (sortsA _) (enters_of Tryz.func69 (by kernel_rfl) rfl) g #[.pointer (some ⟨Bm, 0, none⟩)] trivial eg _ 0 (Nat.zero_le _) (by omega) _ hseq
  change CallsIn _ _ Tryz.prog 43 _ _ _ at cS
  refine cS.mono ?_
  rintro e w' ⟨v, ss, rfl, rfl, -, hnil, hb⟩
  obtain rfl : v = .slice none 0 0 := hnil.2 rfl
  exact ⟨rfl, Keeps.of_below hb⟩

theorem keysA (mb : Option Nat) (w : World) : Calls Tryz.prog 44 #[.map mb] w fun e w' => e = .returned (.func (.func 70) #[] #[.pointer (some ⟨w.heap.size, 0, none⟩)]) ∧ w' = w.alloc (.cells #[.map mb] 72) :=
  (callsIn_wide (n := 5)).1 (AnyZI.keys_in Tryz.keysA Fence.wide 5 trivial rfl mb w)
theorem sortedA {kl : Nat → Lit} {kv : Nat → Value} {N : Nat} (K : Ks Tryz.prog 3 N kv kl) (hK : ∀ i, i < N → Go.intOf (kl i) = (i : Int)) (hN : N ≤ 1000000) (Bm b : Nat) (val : Nat → Option Value) (w : World) (hBm : Bm < w.heap.size) (hm : w.cell? ⟨Bm, 0, none⟩ = some (.map (some b))) (h : IsF Tryz.prog 3 N kl w b val) :
    Calls Tryz.prog 43 #[.func (.func 70) #[] #[.pointer (some ⟨Bm, 0, none⟩)]] w fun e w' => ∃ v, e = .returned v ∧ w'.ownsRow w.heap.size 3 1 v (nums val N).length ((numZ val N).map encZ) ∧ Keeps (fun _ => False) w w' :=
  sorted_of (ρK := Tryz.keysA_ren) { Tryz.keysA with } rfl rfl (enters_of Tryz.func70 (by kernel_rfl) rfl) K hK hN Bm b val w hBm hm h
theorem sortedA_nil (Bm : Nat) (w : World) (hBm : Bm < w.heap.size) (hm : w.cell? ⟨Bm, 0, none⟩ = some (.map none)) :
    Calls Tryz.prog 43 #[.func (.func 70) #[] #[.pointer (some ⟨Bm, 0, none⟩)]] w fun e w' => e = .returned (.slice none 0 0) ∧ Keeps (fun _ => False) w w' :=
  sorted_nil_of (ρK := Tryz.keysA_ren) { Tryz.keysA with } rfl (enters_of Tryz.func70 (by kernel_rfl) rfl) Bm w hBm hm
theorem keysB (mb : Option Nat) (w : World) : Calls Tryz.prog 52 #[.map mb] w fun e w' => e = .returned (.func (.func 79) #[] #[.pointer (some ⟨w.heap.size, 0, none⟩)]) ∧ w' = w.alloc (.cells #[.map mb] 105) :=
  (callsIn_wide (n := 5)).1 (AnyZI.keys_in Tryz.keysB Fence.wide 5 trivial rfl mb w)
theorem sortedB {kl : Nat → Lit} {kv : Nat → Value} {N : Nat} (K : Ks Tryz.prog 3 N kv kl) (hK : ∀ i, i < N → Go.intOf (kl i) = (i : Int)) (hN : N ≤ 1000000) (Bm b : Nat) (val : Nat → Option Value) (w : World) (hBm : Bm < w.heap.size) (hm : w.cell? ⟨Bm, 0, none⟩ = some (.map (some b))) (h : IsF Tryz.prog 3 N kl w b val) :
    Calls Tryz.prog 43 #[.func (.func 79) #[] #[.pointer (some ⟨Bm, 0, none⟩)]] w fun e w' => ∃ v, e = .returned v ∧ w'.ownsRow w.heap.size 3 1 v (nums val N).length ((numZ val N).map encZ) ∧ Keeps (fun _ => False) w w' :=
  sorted_of (ρK := Tryz.keysB_ren) { Tryz.keysB with } rfl rfl (enters_of Tryz.func79 (by kernel_rfl) rfl) K hK hN Bm b val w hBm hm h
end Go.Proofs.YtgaofnmgdefdcaaGreatDoor.Qk
