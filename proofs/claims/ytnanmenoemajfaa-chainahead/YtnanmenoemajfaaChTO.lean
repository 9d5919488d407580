/- The tables of bytes by the ones ahead (chain.tablesOf). -/
import Derived.Test.YtnanmenoemajfaaChPr
import Derived.Test.YtnanmenoemajfaaFrqSc
namespace Go.Proofs.Ytnanmenoemajfaa.Cq
open Go.RowKit Go.Proofs.Ytnanmenoemajfaa.Gen Go.Proofs.Ytnanmenoemajfaa.Wr Go.Proofs.Ytnanmenoemajfaa.It Go.Proofs.Ytnanmenoemajfaa.Fq Go.Proofs.Ytnanmenoemajfaa.Rp Go.Proofs.Ytnanmenoemajfaa.Ch Go.Proofs.Ytnanmenoemajfaa.Cm Go.Proofs.Ytnanmenoemajfaa.Ck

/-- A byte has come ahead of one of these pairs. -/
def exB (seen : List Nat) (a : Nat) : Bool := seen.any fun i => i / 256 == a
theorem exB_snoc (seen : List Nat) (i a : Nat) : exB (seen ++ [i]) a = (exB seen a || (i / 256 == a)) := by simp [exB]
/-- The counts of the pairs that have come. -/
def rowS (L seen : List Nat) (a : Nat) : List Int := (List.range 256).map fun c => if 256 * a + c ∈ seen then ((L.count (256 * a + c) : Nat) : Int) else 0
theorem rowS_len (L seen : List Nat) (a : Nat) : (rowS L seen a).length = 256 := by simp [rowS]
theorem rowS_get {L seen : List Nat} {a c : Nat} (h : c < 256) : (rowS L seen a)[c]? = some (if 256 * a + c ∈ seen then ((L.count (256 * a + c) : Nat) : Int) else 0) := by
  simp only [rowS, List.getElem?_map, List.getElem?_range h, Option.map_some]
theorem rowS_same (L seen : List Nat) {x y : Nat} (hy : y < 256) : rowS L (seen ++ [256 * x + y]) x = (rowS L seen x).set y ((L.count (256 * x + y) : Nat) : Int) := by
  apply List.ext_getElem?
  intro c
  by_cases hc : c < 256
  · rw [rowS_get hc]
    by_cases e : c = y
    · subst e
      rw [List.getElem?_set_self (by rw [rowS_len]; exact hc), if_pos (by simp)]
    · rw [List.getElem?_set_ne (Ne.symm e), rowS_get hc]
      congr 1
      have : 256 * x + c ∈ seen ++ [256 * x + y] ↔ 256 * x + c ∈ seen := by
        rw [List.mem_append, List.mem_singleton]
        exact ⟨fun h => h.elim id fun h => absurd h (by omega), .inl⟩
      simp only [this]
  · rw [List.getElem?_eq_none (by rw [rowS_len]; omega), List.getElem?_eq_none (by rw [List.length_set, rowS_len]; omega)]
theorem rowS_far (L seen : List Nat) {x y a : Nat} (hy : y < 256) (ha : a ≠ x) : rowS L (seen ++ [256 * x + y]) a = rowS L seen a := by
  apply List.ext_getElem?
  intro c
  by_cases hc : c < 256
  · rw [rowS_get hc, rowS_get hc]
    congr 1
    have : 256 * a + c ∈ seen ++ [256 * x + y] ↔ 256 * a + c ∈ seen := by
      rw [List.mem_append, List.mem_singleton]
      exact ⟨fun h => h.elim id fun h => absurd h (by omega), .inl⟩
    simp only [this]
  · rw [List.getElem?_eq_none (by rw [rowS_len]; omega), List.getElem?_eq_none (by rw [rowS_len]; omega)]
theorem rowS_new {L seen : List Nat} {x : Nat} (h : exB seen x = false) : rowS L seen x = zs := by
  apply List.ext_getElem?
  intro c
  by_cases hc : c < 256
  · rw [rowS_get hc, if_neg, zs, List.getElem?_replicate, if_pos hc]
    intro hm
    have : exB seen x = true := List.any_eq_true.2 ⟨_, hm, by simp; omega⟩
    rw [h] at this
    cases this
  · rw [List.getElem?_eq_none (by rw [rowS_len]; omega), List.getElem?_eq_none (by rw [zs_len]; omega)]
theorem rowS_all {L seen : List Nat} (h : ∀ i, i < 65536 → cntV L i ≠ none → i ∈ seen) {a : Nat} (ha : a < 256) : rowS L seen a = rowOf L a := by
  apply List.ext_getElem?
  intro c
  by_cases hc : c < 256
  · rw [rowS_get hc, rowOf, List.getElem?_map, List.getElem?_range hc, Option.map_some]
    congr 1
    split
    · rfl
    · next hn =>
      have : cntV L (256 * a + c) = none := Classical.byContradiction fun hv => hn (h _ (by omega) hv)
      unfold cntV at this
      split at this
      · next h0 => rw [h0]; rfl
      · cases this
  · rw [List.getElem?_eq_none (by rw [rowS_len]; omega), List.getElem?_eq_none (by rw [rowOf_len]; omega)]
theorem cntV_mem {L : List Nat} {i : Nat} : cntV L i ≠ none ↔ i ∈ L := by
  unfold cntV
  by_cases h : L.count i = 0
  · rw [if_pos h]
    simp [List.count_eq_zero.1 h]
  · rw [if_neg h]
    simp only [ne_eq, reduceCtorEq, not_false_eq_true, true_iff]
    exact List.count_pos_iff.1 (by omega)
theorem exB_all {L seen : List Nat} (hl : L.length ≤ 1000000) (h : ∀ i, i < 65536 → cntV L i ≠ none → i ∈ seen) (h2 : ∀ i ∈ seen, i < 65536 ∧ cntV L i ≠ none) {a : Nat} (ha : a < 256) : exB seen a = true ↔ (rowOf L a).sum ≠ 0 := by
  constructor
  · intro he
    obtain ⟨i, hi, e⟩ := List.any_eq_true.1 he
    simp only [beq_iff_eq] at e
    obtain ⟨h3, h4⟩ := h2 i hi
    exact (rowOf_sum hl (a := a) (c := i % 256) (by omega) (by rw [show 256 * a + i % 256 = i by omega]; exact cntV_mem.1 h4)).1
  · intro hs
    obtain ⟨c, hc, hm⟩ := rowOf_hit hs
    exact List.any_eq_true.2 ⟨256 * a + c, h _ (by omega) (cntV_mem.2 hm), by simp; omega⟩
/-- A pointer for each byte that has come. -/
def ptrV (seen : List Nat) (G : Nat → Nat) (a : Nat) : Option Value := if exB seen a = true then some (.pointer (some ⟨G a, 0, none⟩)) else none
/-- Tables as elements of a map. -/
def tabV (tb : Nat → Option (List Int)) (a : Nat) : Option Value := (tb a).map fun l => .agg (vs l)
structure Beh (w0 : World) (L : List Nat) (bh : Nat) (seen : List Nat) (G : Nat → Nat) (w : World) : Prop where
  map : IsF Try.prog 5 256 bkl w bh (ptrV seen G)
  row : ∀ a, a < 256 → exB seen a = true → Blk w (G a) 64 (vs (rowS L seen a)) ∧ w0.heap.size ≤ G a
  inj : ∀ a a', a < 256 → a' < 256 → exB seen a = true → exB seen a' = true → G a = G a' → a = a'
theorem Beh.keeps {S : Nat → Prop} {w0 w w1 : World} {L seen : List Nat} {bh : Nat} {G : Nat → Nat} (h : Beh w0 L bh seen G w) (k : Keeps S w w1) (hb : ¬ S bh) (hg : ∀ a, a < 256 → exB seen a = true → ¬ S (G a)) : Beh w0 L bh seen G w1 :=
  ⟨h.map.keeps k hb, fun a ha he => ⟨(h.row a ha he).1.keeps k (hg a ha he), (h.row a ha he).2⟩, h.inj⟩
/-- A count laid into a row that is there. -/
theorem Beh.set {w0 w : World} {L seen : List Nat} {bh x y : Nat} {G : Nat → Nat} (h : Beh w0 L bh seen G w) (hx : x < 256) (hy : y < 256) (he : exB seen x = true) :
    Beh w0 L bh (seen ++ [256 * x + y]) G (w.setCell ⟨G x, y, none⟩ (.int .i64 ((L.count (256 * x + y) : Nat) : Int))) := by
  have hex : ∀ a, exB (seen ++ [256 * x + y]) a = exB seen a := by
    intro a
    rw [exB_snoc, show (256 * x + y) / 256 = x by omega]
    by_cases e : x = a
    · subst e; rw [he]; rfl
    · have : (x == a) = false := by simpa using e
      rw [this, Bool.or_false]
  have hk : Keeps (· = G x) w (w.setCell ⟨G x, y, none⟩ (.int .i64 ((L.count (256 * x + y) : Nat) : Int))) := (Keeps.refl _ _).setOwn y _
  refine ⟨?_, fun a ha ha2 => ?_, fun a a' h1 h2 h3 h4 => ?_⟩
  · have hp : ptrV (seen ++ [256 * x + y]) G = ptrV seen G := by funext a; unfold ptrV; rw [hex]
    rw [hp]
    exact h.map.keeps hk (fun e => h.map.ne_blk (h.row x hx he).1 e.symm)
  · rw [hex] at ha2
    refine ⟨?_, (h.row a ha ha2).2⟩
    by_cases e : a = x
    · subst e
      rw [rowS_same L seen hy, ← vs_set]
      exact (h.row a ha ha2).1.setCell y _
    · rw [rowS_far L seen hy e]
      exact (h.row a ha ha2).1.keeps hk (fun e2 => e (h.inj a x ha hx ha2 he e2))
  · rw [hex] at h3 h4
    exact h.inj a a' h1 h2 h3 h4
theorem built_arr : (Try.prog.built 64 []) = some (Array.replicate 256 (.int .i64 0)) := by kernel_rfl
theorem run_arr (w : World) : (Instr.build 64 #[]).run Try.prog w = .ok (.agg (vs zs)) w := by
  rw [zs, ← vs_rep]
  exact run_build w 64 #[] _ built_arr
theorem zero_ptr (w : World) : (zeroValue 76).run Try.prog w = .ok (.pointer none) w := by kernel_rfl
/-- A new row, and a count laid into it. -/
theorem Beh.made {w0 w w4 : World} {L seen : List Nat} {bh x y g : Nat} {G : Nat → Nat} (h : Beh w0 L bh seen G w) (hx : x < 256) (hy : y < 256) (he : exB seen x = false) (hB : Blk w4 g 64 (vs zs)) (h0 : w0.heap.size ≤ g) (hg : w.heap.size ≤ g) (hk : Keeps (· = bh) w w4)
    (hm : IsF Try.prog 5 256 bkl w4 bh (putF (ptrV seen G) x (.pointer (some ⟨g, 0, none⟩)))) :
    Beh w0 L bh (seen ++ [256 * x + y]) (fun a => if a = x then g else G a) (w4.setCell ⟨g, y, none⟩ (.int .i64 ((L.count (256 * x + y) : Nat) : Int))) := by
  have hex : ∀ a, exB (seen ++ [256 * x + y]) a = (exB seen a || (x == a)) := by
    intro a
    rw [exB_snoc, show (256 * x + y) / 256 = x by omega]
  have hold : ∀ a, a ≠ x → exB (seen ++ [256 * x + y]) a = true → exB seen a = true := by
    intro a ha h2
    rw [hex] at h2
    have : (x == a) = false := by simpa using Ne.symm ha
    rw [this, Bool.or_false] at h2
    exact h2
  have hne : ∀ a, a < 256 → exB seen a = true → G a ≠ g := fun a ha h2 => by have := (h.row a ha h2).1.lt; omega
  have hk2 : Keeps (· = g) w4 (w4.setCell ⟨g, y, none⟩ (.int .i64 ((L.count (256 * x + y) : Nat) : Int))) := (Keeps.refl _ _).setOwn y _
  have hgb : g ≠ bh := hm.ne_blk hB
  refine ⟨?_, fun a ha ha2 => ?_, fun a a' h1 h2 h3 h4 => ?_⟩
  · have hp : ptrV (seen ++ [256 * x + y]) (fun a => if a = x then g else G a) = putF (ptrV seen G) x (.pointer (some ⟨g, 0, none⟩)) := by
      funext a
      unfold ptrV putF
      rw [hex]
      by_cases e : a = x
      · subst e
        simp
      · have : (x == a) = false := by simpa using Ne.symm e
        simp only [if_neg e, this, Bool.or_false]
    rw [hp]
    exact hm.keeps hk2 (Ne.symm hgb)
  · by_cases e : a = x
    · subst e
      simp only [if_true]
      rw [rowS_same L seen hy, rowS_new he, ← vs_set]
      exact ⟨hB.setCell y _, h0⟩
    · rw [if_neg e, rowS_far L seen hy e]
      have h5 := hold a e ha2
      exact ⟨((h.row a ha h5).1.keeps hk (fun e2 => h.map.ne_blk (h.row a ha h5).1 e2)).keeps hk2 (hne a ha h5), (h.row a ha h5).2⟩
  · by_cases e1 : a = x
    · by_cases e2 : a' = x
      · intro _
        rw [e1, e2]
      · simp only [e1, if_true, if_neg e2] at *
        intro h6
        exact absurd h6.symm (hne a' h2 (hold a' e2 h4))
    · by_cases e2 : a' = x
      · simp only [e2, if_true, if_neg e1] at *
        intro h6
        exact absurd h6 (hne a h1 (hold a e1 h3))
      · rw [if_neg e1, if_neg e2]
        exact h.inj a a' h1 h2 (hold a e1 h3) (hold a' e2 h4)

set_option maxHeartbeats 8000000 in
set_option maxRecDepth 100000 in
theorem tablesOf_ (A : Option Addr) (n c : Nat) (xs : List Int) (w : World) (hx : xs.length = n) (hl : Lies w A xs) (hc : n ≤ c) (hn : n ≤ 1000000) (hb : ∀ x ∈ xs, 0 ≤ x ∧ x < 256) :
    Calls Try.prog 10 #[.slice A n c] w fun r w' => ∃ b, r = .returned (.map (some b)) ∧ IsF Try.prog 5 256 bkl w' b (tabV (tabs xs)) ∧ w.heap.size ≤ b ∧ Keeps (fun _ => False) w w' := by
  have hmm := @run_makeMap Try.prog
  have HL := Lib.hid hl
  have HPR := Lib.hid (fun W (h : Lies W A xs) => pairs_ A n c xs W hx h hc hn hb)
  obtain ⟨L, hL⟩ : ∃ L, pa n xs 4 = L := ⟨_, rfl⟩
  have hLL : L.length ≤ 1000000 := by rw [← hL, pa_len n xs (Nat.le_refl _)]; simp [qo]; omega
  have HT : Hid (tabs xs = tabL L) := by show _ = _; rw [tabs, hx, hL]
  rw [hL] at HPR
  have HLL := Lib.hid hLL
  have hbu := run_arr
  have hza : ∀ w, (zeroValue 64).run Try.prog w = .ok (.agg (vs zs)) w := arr_zero
  have HZI : Hid ((Try.prog.info? 64).map (·.size) = some (vs zs).size) := arr_size zs_len
  generalize hZ : vs zs = Z at hbu hza HZI
  have HZ := Lib.hid hZ
  clear hx hl hc hn hb hL hLL hZ
  go_enter Try.func10, Try.ntmps10
  go_upto_region 2 with fail
  obtain ⟨bh, hbh⟩ : ∃ bh, w.heap.size = bh := ⟨_, rfl⟩
  have HM0 := Lib.hid (IsF.new Try.prog 5 256 bkl w)
  have HK0 : Hid (Keeps (fun _ => False) w (w.alloc (.map #[] 0))) := (Keeps.refl _ _).alloc _
  have HS0 : Hid (bh < (w.alloc (.map #[] 0)).heap.size) := by show _ < _; rw [← hbh]; simp
  generalize w.alloc (.map #[] 0) = W0 at HM0 HK0 HS0 ⊢
  rw [hbh] at HM0 ⊢
  have HBH := Lib.hid hbh
  clear hbh
  go_upto_region 3 with (first
    | (go_at_call 29
       refine (HPR.out W0 (HL.out.keeps HK0.out (fun _ _ _ => id))).mono ?_
       rintro e w1 ⟨bp, rfl, hf1, hsz1, hk1⟩
       have HP1 := Lib.hid hf1
       have HM1 := Lib.hid (HM0.out.keeps hk1 id)
       have HK1 := Lib.hid (HK0.out.trans hk1)
       have HS1 : Hid (bh < bp) := Nat.lt_of_lt_of_le HS0.out hsz1
       clear hf1 hsz1 hk1 HM0 HK0 HPR)
    | (at_range
       refine wpList_range_f _ pair_ks rfl _ _ rfl 3 Try.underlying72 bp (cntV L) rfl HP1.out ?_
       intro w2 cn hrg2 hk2
       have HRG := Lib.hid hrg2
       have HM2 := Lib.hid (HM1.out.keeps hk2 id)
       have HK2 := Lib.hid (HK1.out.trans hk2)
       have HS2 := Lib.hid HM1.out.lt
       clear hrg2 hk2 HM1 HK1 HP1))
  obtain ⟨rp, hrp⟩ : ∃ rp, w1.heap.size = rp := ⟨_, rfl⟩
  rw [hrp] at HRG HS2 ⊢
  clear hrp HS0
  go_frame
  go_loopw [4, 5] (fun _ _ wr => ∃ (seen : List Nat) (cn : Nat) (G : Nat → Nat), RgF Try.prog 75 65536 pkl wr bp rp (cntV L) seen cn ∧ Beh w L bh seen G wr ∧ Keeps (fun _ => False) w wr) (fun _ _ wr => wr.rangeLeft bp rp)
  case atStart =>
    refine ⟨[], cn, fun _ => 0, HRG.out, ⟨?_, fun a _ h => by simp [exB] at h, fun a a' _ _ h => by simp [exB] at h⟩, HK2.out⟩
    have : ptrV [] (fun _ => 0) = fun _ => none := by funext a; simp [ptrV, exB]
    rw [this]
    exact HM2.out
  case round =>
    clear HRG HM2 HK2
    obtain ⟨seen, cn, G, hrg, hbe, hk⟩ := hrel
    have HR := Lib.hid hrg
    have HBE := Lib.hid hbe
    have HK := Lib.hid hk
    clear hrg hbe hk
    go_wp2_with (
      at_next
      refine wpList_next_f _ pair_ks rfl _ rfl bp rp (cntV L) seen cn rfl HR.out ?_ ?_)
    · intro hall
      obtain ⟨wa, rfl⟩ : ∃ wa, wa = wr := ⟨_, rfl⟩
      have hexb : ∀ a, a < 256 → (exB seen a = true ↔ (rowOf L a).sum ≠ 0) := fun a ha => exB_all HLL.out hall HR.out.seen_in ha
      have hrow : ∀ a, a < 256 → exB seen a = true → Blk wa (G a) 64 (vs (rowOf L a)) := fun a ha h => by
        have := (HBE.out.row a ha h).1
        rw [rowS_all hall ha] at this
        exact this
      have HEX := Lib.hid hexb
      have HRW := Lib.hid hrow
      have HMB := Lib.hid HBE.out.map
      have HWR : Hid (w.heap.size ≤ wa.heap.size) := HK.out.size
      have HSB := Lib.hid HMB.out.lt
      obtain ⟨t, ht⟩ : ∃ t, wa.heap.size = t := ⟨_, rfl⟩
      have HT0 := Lib.hid (IsF.new Try.prog 5 256 bkl wa)
      have HKm : Hid (Keeps (fun _ => False) wa (wa.alloc (.map #[] 0))) := (Keeps.refl _ _).alloc _
      have HTe := Lib.hid ht
      clear hall hexb hrow HR HBE hza hbu HZI
      go_upto_region 9 with fail
      generalize wa.alloc (.map #[] 0) = W5 at HT0 HKm ⊢
      rw [ht] at HT0
      have HMB5 := Lib.hid (HMB.out.keeps HKm.out id)
      clear ht
      go_upto_region 10 with (
        at_range
        refine wpList_range_f _ byte_ks rfl _ _ rfl 76 Try.underlying71 bh (ptrV seen G) rfl HMB5.out ?_
        intro w6 cn6 hrg6 hk6
        have HRG6 := Lib.hid hrg6
        have HT6 := Lib.hid (HT0.out.keeps hk6 id)
        have HK6 := Lib.hid (HKm.out.trans hk6)
        have HS6 := Lib.hid HT0.out.lt
        clear hrg6 hk6 HT0 HKm HMB5)
      obtain ⟨r2, hr2⟩ : ∃ r2, W5.heap.size = r2 := ⟨_, rfl⟩
      rw [hr2] at HRG6 HS6 ⊢
      clear hr2
      go_frame
      go_loopw [7, 8] (fun _ _ wr => ∃ (seen2 : List Nat) (cn : Nat), RgF Try.prog 5 256 bkl wr bh r2 (ptrV seen G) seen2 cn ∧ IsF Try.prog 5 256 bkl wr t (fun a => if a ∈ seen2 then tabV (tabL L) a else none) ∧ Keeps (fun _ => False) wa wr) (fun _ _ wr => wr.rangeLeft bh r2)
      case atStart => exact ⟨[], cn6, HRG6.out, by simpa using HT6.out, HK6.out⟩
      case round =>
        clear HRG6 HT6 HK6
        obtain ⟨seen2, cn, hrg, htm, hk⟩ := hrel
        have HR := Lib.hid hrg
        have HTM := Lib.hid htm
        have HKQ := Lib.hid hk
        clear hrg htm hk
        go_wp2_with (
          at_next
          refine wpList_next_f _ byte_ks rfl _ rfl bh r2 (ptrV seen G) seen2 cn rfl HR.out ?_ ?_)
        · intro hall2
          have HF : Hid (IsF Try.prog 5 256 bkl wr t (tabV (tabs xs))) := by
            refine Lib.hid (HTM.out.congr fun a ha => ?_)
            rw [HT.out]
            by_cases hs : a ∈ seen2
            · rw [if_pos hs]
            · rw [if_neg hs]
              have hv : ptrV seen G a = none := Classical.byContradiction fun h => hs (hall2 a ha h)
              have he : ¬ exB seen a = true := by
                intro h
                rw [ptrV, if_pos h] at hv
                cases hv
              have h0 : (rowOf L a).sum = 0 := Classical.byContradiction fun h => he ((HEX.out a ha).2 h)
              rw [tabV, tabL, if_pos (.inr h0)]
              rfl
          clear hall2 HR HTM
          go_wp2_with fail
          go_ret
          exact ⟨t, rfl, HF.out, by rw [← HTe.out]; exact HWR.out, HK.out.trans HKQ.out⟩
        · intro a v w7 cn7 ha hv hns hrg7 hlt7 hk7 hen
          have he : exB seen a = true := by
            unfold ptrV at hv
            split at hv
            · next h => exact h
            · cases hv
          obtain ⟨g, hg⟩ : ∃ g, G a = g := ⟨_, rfl⟩
          obtain rfl : v = .pointer (some ⟨g, 0, none⟩) := by
            rw [ptrV, if_pos he, hg] at hv
            injection hv with hv
            exact hv.symm
          have HG7 : Hid (Blk w7 g 64 (vs (rowOf L a))) := by
            have h1 := (HRW.out a ha he).keeps HKQ.out id
            rw [hg] at h1
            exact h1.keeps hk7 (fun e => HR.out.ne_blk h1 e)
          have hs0 := (HEX.out a ha).1 he
          have hin := rowOf_in HLL.out a
          obtain ⟨R, hR⟩ : ∃ R, vs (rowOf L a) = R := ⟨_, rfl⟩
          obtain ⟨V, hV⟩ : ∃ V, vs (scal (rowOf L a)) = V := ⟨_, rfl⟩
          have HRI : Hid ((Try.prog.info? 64).map (·.size) = some R.size) := by show _ = _; rw [← hR]; exact arr_size (rowOf_len L a)
          have HSC := Lib.hid (fun W => scaled (rowOf L a) W (rowOf_len L a))
          unfold ScalAns at HSC
          rw [if_pos ⟨hin, hs0⟩, decide_eq_true ⟨hin, hs0⟩, hR, hV] at HSC
          rw [hR] at HG7
          have HTV : Hid (putF (fun a => if a ∈ seen2 then tabV (tabL L) a else none) a (.agg V) = fun a' => if a' ∈ seen2 ++ [a] then tabV (tabL L) a' else none) := by
            show _ = _
            funext a'
            unfold putF
            by_cases e : a' = a
            · subst e
              rw [if_pos rfl, if_pos (by simp), tabV, tabL, if_neg (by omega), ← hV]
              rfl
            · rw [if_neg e]
              have : a' ∈ seen2 ++ [a] ↔ a' ∈ seen2 := by simp [e]
              simp only [this]
          have HR7 := Lib.hid hrg7
          have HTM7 := Lib.hid (HTM.out.keeps hk7 (fun e => by have := HS6.out; omega))
          have HK7 : Hid (Keeps (fun _ => False) wa w7) := Lib.hid (keeps_low HKQ.out hk7 (fun z hz => by subst hz; have := HS6.out; have := HTe.out; omega))
          have HLT : Hid (cn7 < wr.rangeLeft bh r2) := by show _ < _; rw [HR.out.left_eq]; exact hlt7
          have HA := Lib.hid ha
          have HTB : Hid (bh < t) := by show bh < t; rw [← HTe.out]; exact HSB.out
          unfold bkv at hen ⊢
          clear hv hns hrg7 hlt7 hk7 he hg hs0 hin hR hV HR HTM HKQ ha
          go_wp2_with (first
            | ((with_reducible refine ld_row HG7.out Try.underlying64 HRI.out ?_ ?_); rfl)
            | (go_at_call 30
               refine (HSC.out _).mono ?_
               rintro e w8 ⟨rfl, hk8⟩
               have HTM8 := Lib.hid (HTM7.out.keeps hk8 id)
               have HR8 := Lib.hid (HR7.out.keeps hk8 id id)
               have HK8 := Lib.hid (HK7.out.trans hk8)
               clear hk8)
            | (at_mapUpdate
               refine wpList_update_f _ byte_ks rfl (.tmp 46) (.tmp 47) (.tmp 52) _ rfl 65 Try.underlying40 t _ rfl HTM8.out (by omega) a HA.out (.agg V) rfl rfl ?_
               intro w9 hf9 hk9
               rw [HTV.out] at hf9
               have HTM9 := Lib.hid hf9
               have HR9 := Lib.hid (HR8.out.keeps hk9 (fun e => by have := HTB.out; omega) (fun e => by have := HS6.out; omega))
               have HK9 : Hid (Keeps (fun _ => False) wa w9) := Lib.hid (keeps_low HK8.out hk9 (fun z hz => by subst hz; have := HTe.out; omega))
               clear hf9 hk9))
          go_roundw
          case rel =>
            simp only [Act.put]
            exact ⟨_, _, _, _, _, _, _, _, _, _, _, _, _, _, _, _, ⟨seen2 ++ [a], cn7, HR9.out, HTM9.out, HK9.out⟩, rfl⟩
          case measure =>
            exact Nat.lt_of_le_of_lt (Nat.le_of_eq HR9.out.left_eq) HLT.out
    · intro i v w3 cn2 hi hv hns hrg3 hlt3 hk3 hen
      obtain ⟨x, y, rfl, hx, hy⟩ : ∃ x y, i = 256 * x + y ∧ x < 256 ∧ y < 256 := ⟨i / 256, i % 256, by omega, by omega, by omega⟩
      obtain ⟨q, hq⟩ : ∃ q, L.count (256 * x + y) = q := ⟨_, rfl⟩
      obtain rfl : v = .int .i64 (q : Int) := by
        unfold cntV at hv
        rw [hq] at hv
        split at hv
        · cases hv
        · injection hv with hv; exact hv.symm
      rw [pkv_at hy] at hen ⊢
      have HBE3 := Lib.hid (HBE.out.keeps hk3 (fun e => by have := HS1.out; have := HS2.out; omega) (fun a ha h2 e => HR.out.ne_blk (HBE.out.row a ha h2).1 e))
      have HK3 := Lib.hid (keeps_low HK.out hk3 (fun z hz => by have := HS1.out; have := HS2.out; have := HBH.out; omega))
      have HR3 := Lib.hid hrg3
      have HLT : Hid (cn2 < wr.rangeLeft bp rp) := by show _ < _; rw [HR.out.left_eq]; exact hlt3
      have HQ := Lib.hid hq
      clear hi hv hns hrg3 hlt3 hk3 hq HBE HK HR
      go_upto_region 5 with fail
      obtain ⟨p, hp⟩ : ∃ p, w3.heap.size = p := ⟨_, rfl⟩
      have HP4 : Hid (Blk (w3.alloc (.cells #[.int .u8 (x : Int), .int .u8 (y : Int)] 75)) w3.heap.size 75 #[.int .u8 (x : Int), .int .u8 (y : Int)]) := Blk.new _ _ _
      have HKa : Hid (Keeps (fun _ => False) w3 (w3.alloc (.cells #[.int .u8 (x : Int), .int .u8 (y : Int)] 75))) := (Keeps.refl _ _).alloc _
      generalize w3.alloc (.cells #[.int .u8 (x : Int), .int .u8 (y : Int)] 75) = W4 at HP4 HKa ⊢
      rw [hp] at HP4 ⊢
      have HBE4 := Lib.hid (HBE3.out.keeps HKa.out id (fun _ _ _ => id))
      have HR4 := Lib.hid (HR3.out.keeps HKa.out id id)
      have HK4 := Lib.hid (HK3.out.trans HKa.out)
      have hc0 : W4.cell? ⟨p, 0, none⟩ = some (.int .u8 (x : Int)) := HP4.out.cell 0
      have hc1 : W4.cell? ⟨p, 1, none⟩ = some (.int .u8 (y : Int)) := HP4.out.cell 1
      have hy0 : (0 : Int) ≤ (y : Int) := by omega
      have hy1 : (y : Int) < 256 := by omega
      have HX := Lib.hid hx
      have HY := Lib.hid hy
      clear hp hen HKa HBE3 HR3 HK3 hx hy
      by_cases he : exB seen x = true
      · obtain ⟨g, hg⟩ : ∃ g, G x = g := ⟨_, rfl⟩
        have hval : ptrV seen G x = some (.pointer (some ⟨g, 0, none⟩)) := by rw [ptrV, if_pos he, hg]
        have hlk : ∀ W, Keeps (fun _ => False) W4 W → (Instr.lookup 71 (.map (some bh)) (.int .u8 (x : Int)) false).run Try.prog W = .ok (.pointer (some ⟨g, 0, none⟩)) W := fun W k =>
          (((HBE4.out.map.keeps k id).look byte_ks Try.underlying71 (zero_ptr W) HX.out).1 _ hval).1
        have hlk4 := hlk W4 (Keeps.refl _ _)
        have hlk5 := hlk W4.drew ((Keeps.refl _ _).drewN 1)
        obtain ⟨hrow, hrb⟩ := HBE4.out.row x HX.out he
        rw [hg] at hrow hrb
        have hcell : W4.cell? ⟨g, y, none⟩ = some (.int .i64 ((rowS L seen x).getD y 0)) := by rw [hrow.cell, vs_get (by rw [rowS_len]; exact HY.out)]
        have hfz : W4.frozen? ⟨g, y, none⟩ = false := hrow.frozen y
        have hbeF : Beh w L bh (seen ++ [256 * x + y]) G (W4.drew.setCell ⟨g, y, none⟩ (.int .i64 (q : Int))) := by
          have := (HBE4.out.keeps (S := fun _ => False) ((Keeps.refl _ W4).drewN 1) id (fun _ _ _ => id)).set HX.out HY.out he
          rw [hg, HQ.out] at this
          exact this
        have hks : Keeps (· = g) W4 (W4.drew.setCell ⟨g, y, none⟩ (.int .i64 (q : Int))) := ((Keeps.refl _ W4).drewN 1).setOwn y _
        have hrgF : RgF Try.prog 75 65536 pkl (W4.drew.setCell ⟨g, y, none⟩ (.int .i64 (q : Int))) bp rp (cntV L) (seen ++ [256 * x + y]) cn2 :=
          HR4.out.keeps hks (fun e => HR4.out.isF.ne_blk hrow e.symm) (fun e => HR4.out.ne_blk hrow e.symm)
        have hkF : Keeps (fun _ => False) w (W4.drew.setCell ⟨g, y, none⟩ (.int .i64 (q : Int))) := (HK4.out.drewN 1).setCell (p := ⟨g, y, none⟩) (.inr hrb) _
        have HBF := Lib.hid hbeF
        have HRF := Lib.hid hrgF
        have HKF := Lib.hid hkF
        generalize (rowS L seen x).getD y 0 = zz at hcell
        clear hlk hval hrow hrb hbeF hks hrgF hkF hg he HBE4 HR4 HK4
        go_upto_region 7 with fail
        go_region
        go_wp2_with fail
        refine ⟨⟨seen ++ [256 * x + y], cn2, G, HRF.out, HBF.out, HKF.out⟩, ?_⟩
        exact Nat.lt_of_le_of_lt (Nat.le_of_eq HRF.out.left_eq) HLT.out
      · have he0 : exB seen x = false := by simpa using he
        have hval : ptrV seen G x = none := by rw [ptrV, if_neg he]
        have hlk4 := (((HBE4.out.map).look byte_ks Try.underlying71 (zero_ptr W4) HX.out).2 hval).1
        have hlk4 : (Instr.lookup 71 (.map (some bh)) (.int .u8 (x : Int)) false).run Try.prog W4 = .ok (.pointer none) W4 := hlk4
        obtain ⟨g, hg⟩ : ∃ g, W4.heap.size = g := ⟨_, rfl⟩
        have HZ5 : Hid (Blk (W4.alloc (.cells Z 64)) W4.heap.size 64 Z) := Blk.new _ _ _
        have HKz : Hid (Keeps (fun _ => False) W4 (W4.alloc (.cells Z 64))) := (Keeps.refl _ _).alloc _
        have HMz := Lib.hid (HBE4.out.map.keeps HKz.out id)
        rw [hg] at HZ5
        have HG := Lib.hid hg
        have HE := Lib.hid he0
        have hc0z : (W4.alloc (.cells Z 64)).cell? ⟨p, 0, none⟩ = some (.int .u8 (x : Int)) := (HP4.out.alloc _).cell 0
        clear he he0 hval
        go_upto_region 7 with (
          at_mapUpdate
          refine wpList_update_f _ byte_ks rfl (.tmp 23) (.tmp 25) (.tmp 27) _ rfl 76 Try.underlying71 bh (ptrV seen G) rfl HMz.out (by omega) x HX.out (.pointer (some ⟨g, 0, none⟩)) rfl rfl ?_
          intro w6 hf6 hk6
          have HF6 := Lib.hid hf6
          have HK6 := Lib.hid hk6
          clear hf6 hk6)
        have HKw := Lib.hid (HKz.out.none_.trans HK6.out)
        have HP6 := Lib.hid (HP4.out.keeps HKw.out (fun e => HBE4.out.map.ne_blk HP4.out e))
        have HGb : Hid (g ≠ bh) := by
          show g ≠ bh
          have := HBE4.out.map.lt
          have := HG.out
          omega
        have HZ6 := Lib.hid (HZ5.out.keeps HK6.out HGb.out)
        have hd0 : w6.cell? ⟨p, 0, none⟩ = some (.int .u8 (x : Int)) := HP6.out.cell 0
        have hd1 : w6.cell? ⟨p, 1, none⟩ = some (.int .u8 (y : Int)) := HP6.out.cell 1
        have hval6 : putF (ptrV seen G) x (.pointer (some ⟨g, 0, none⟩)) x = some (.pointer (some ⟨g, 0, none⟩)) := by rw [putF, if_pos rfl]
        have hlk6 : (Instr.lookup 71 (.map (some bh)) (.int .u8 (x : Int)) false).run Try.prog w6 = .ok (.pointer (some ⟨g, 0, none⟩)) w6 := ((HF6.out.look byte_ks Try.underlying71 (zero_ptr w6) HX.out).1 _ hval6).1
        have hlk7 : (Instr.lookup 71 (.map (some bh)) (.int .u8 (x : Int)) false).run Try.prog w6.drew = .ok (.pointer (some ⟨g, 0, none⟩)) w6.drew :=
          (((HF6.out.keeps (S := fun _ => False) ((Keeps.refl _ w6).drewN 1) id).look byte_ks Try.underlying71 (zero_ptr w6.drew) HX.out).1 _ hval6).1
        have hcell : w6.cell? ⟨g, y, none⟩ = some (.int .i64 0) := by
          rw [HZ6.out.cell, ← HZ.out, vs_get (by rw [zs_len]; exact HY.out), zs, List.getD, List.getElem?_replicate, if_pos HY.out]
          rfl
        have hfz : w6.frozen? ⟨g, y, none⟩ = false := HZ6.out.frozen y
        have hgw : w.heap.size ≤ g := by rw [← HG.out]; exact HK4.out.size
        have hbeF : Beh w L bh (seen ++ [256 * x + y]) (fun a => if a = x then g else G a) (w6.drew.setCell ⟨g, y, none⟩ (.int .i64 (q : Int))) := by
          have := HBE4.out.made (w4 := w6.drew) (g := g) HX.out HY.out HE.out (by rw [HZ.out]; exact HZ6.out) hgw (by rw [HG.out]; exact Nat.le_refl _) (HKw.out.drewN 1) (HF6.out.keeps (S := fun _ => False) ((Keeps.refl _ w6).drewN 1) id)
          rw [HQ.out] at this
          exact this
        have hrg6 : RgF Try.prog 75 65536 pkl w6 bp rp (cntV L) (seen ++ [256 * x + y]) cn2 := HR4.out.keeps HKw.out (fun e => by have := HS1.out; omega) (fun e => by have := HS2.out; omega)
        have hks : Keeps (· = g) w6 (w6.drew.setCell ⟨g, y, none⟩ (.int .i64 (q : Int))) := ((Keeps.refl _ w6).drewN 1).setOwn y _
        have hrgF : RgF Try.prog 75 65536 pkl (w6.drew.setCell ⟨g, y, none⟩ (.int .i64 (q : Int))) bp rp (cntV L) (seen ++ [256 * x + y]) cn2 :=
          hrg6.keeps hks (fun e => hrg6.isF.ne_blk HZ6.out e.symm) (fun e => hrg6.ne_blk HZ6.out e.symm)
        have hkF : Keeps (fun _ => False) w (w6.drew.setCell ⟨g, y, none⟩ (.int .i64 (q : Int))) :=
          ((keeps_low HK4.out HKw.out (fun z hz => by subst hz; have := HBH.out; omega)).drewN 1).setCell (p := ⟨g, y, none⟩) (.inr hgw) _
        have HBF := Lib.hid hbeF
        have HRF := Lib.hid hrgF
        have HKF := Lib.hid hkF
        clear hgw hbeF hrg6 hks hrgF hkF hval6 hc0 hc1 hlk4 hc0z hg HZ5 HKz HMz HBE4 HR4 HK4
        go_region
        all_goals
          go_wp2_with fail
          refine ⟨⟨seen ++ [256 * x + y], cn2, fun a => if a = x then g else G a, HRF.out, HBF.out, HKF.out⟩, ?_⟩
          exact Nat.lt_of_le_of_lt (Nat.le_of_eq HRF.out.left_eq) HLT.out
end Go.Proofs.Ytnanmenoemajfaa.Cq
