/- Sizes, call by call: what is refused; sizes of counts that may be. -/
import Derived.Test.YtaamnbminmcbpaaDoorHufSz
namespace Go.Proofs.YtaamnbminmcbpaaDoor.Hz
open Go.RowKit Go.Shelf Go.Lib Go.Sort Go.Proofs.YtaamnbminmcbpaaDoor.Gen Go.Proofs.YtaamnbminmcbpaaDoor.Mp Go.Proofs.YtaamnbminmcbpaaDoor.Hr Go.Proofs.YtaamnbminmcbpaaDoor.Hp Go.Proofs.YtaamnbminmcbpaaDoor.Hm Go.Proofs.YtaamnbminmcbpaaDoor.Hg Go.Proofs.YtaamnbminmcbpaaDoor.So Go.Proofs.YtaamnbminmcbpaaDoor.Hs Go.Proofs.YtaamnbminmcbpaaDoor.Hf

/-- Counts of any kind as a map's entries. -/
def mi (m : List (Int × Int)) : List (Lit × Value) := m.map fun p => (.int .i64 p.1, .int .i64 p.2)
theorem mi_len (a : List (Int × Int)) : (mi a).length = a.length := by simp [mi]
theorem mi_app (a b : List (Int × Int)) : mi (a ++ b) = mi a ++ mi b := by simp [mi]
theorem mi_shape (m : List (Int × Int)) : ∀ p ∈ mi m, ∃ c : Int, p.2 = Value.int .i64 c := by
  intro p hp
  simp only [mi, List.mem_map] at hp
  obtain ⟨q, _, rfl⟩ := hp
  exact ⟨q.2, rfl⟩
def uni (p : Lit × Value) : Int × Int := (match p.1 with | .int _ x => x | _ => 0, match p.2 with | .int _ x => x | _ => 0)
theorem uni_mi (m : List (Int × Int)) : (mi m).map uni = m := by
  induction m with
  | nil => rfl
  | cons a m ih => simp only [mi, List.map_cons] at ih ⊢; rw [ih]; simp [uni]
theorem mi_mem {m : List (Int × Int)} {x c : Int} (h : ((Lit.int .i64 x, Value.int .i64 c) : Lit × Value) ∈ mi m) : (x, c) ∈ m := by
  have := List.mem_map_of_mem (f := uni) h
  rw [uni_mi] at this
  simpa [uni] using this
/-- A number and a count that may be. -/
def Good (p : Int × Int) : Prop := (1 ≤ p.2 ∧ p.2 ≤ 2147483647) ∧ -2147483647 ≤ p.1 ∧ p.1 ≤ 2147483647
/-- Counts that may be, as plain numbers. -/
def nats (m : List (Int × Int)) : List (Int × Nat) := m.map fun p => (p.1, p.2.toNat)
theorem mv_nats {m : List (Int × Int)} (h : ∀ p ∈ m, Good p) : mv (nats m) = mi m := by
  simp only [mv, nats, mi, List.map_map]
  refine List.map_congr_left fun p hp => ?_
  have := h p hp
  unfold Good at this
  simp only [Function.comp_def]
  congr 2
  omega
theorem nats_keys (m : List (Int × Int)) : (nats m).map (·.1) = m.map (·.1) := by simp [nats, Function.comp_def]
/-- What Sizes answers: sizes by package-merge, the numbers rising. -/
structure SizesAre (m : List (Int × Nat)) (L : List (Int × Nat)) : Prop where
  ex : ∃ N : List Int, N.Perm (m.map (·.1)) ∧ N.Pairwise (fun x y => cnt m x ≤ cnt m y) ∧ L.Perm (N.zip (sizes (N.map (cnt m))))
  rise : L.Pairwise (fun x y => x.1 < y.1)
theorem rise_of {m L : List (Int × Nat)} {N : List Int} (hd : (m.map (·.1)).Nodup) (hN : N.Perm (m.map (·.1))) {ss : List Nat} (hl : ss.length = N.length) (hL : L.Perm (N.zip ss)) (hs : L.Pairwise (fun x y => x.1 ≤ y.1)) : L.Pairwise (fun x y => x.1 < y.1) := by
  have h1 : (L.map (·.1)).Nodup := by
    have h2 := hL.map (·.1)
    rw [List.map_fst_zip (by omega)] at h2
    exact (h2.trans hN).nodup_iff.2 hd
  have h3 : L.Pairwise (fun x y => x.1 ≠ y.1) := by
    rw [List.Nodup, List.pairwise_map] at h1
    exact h1
  exact (hs.and h3).imp fun {a b} h => by omega
theorem wf_of {x : Int} (h : -2147483648 ≤ x ∧ x ≤ 2147483648) : (Lit.int .i64 x).wf = true := by
  have hm : IntKind.i64.min = -9223372036854775808 ∧ IntKind.i64.max = 9223372036854775807 := by decide
  simp [Lit.wf, hm.1, hm.2]
  omega
theorem cnt_le {m : List (Int × Nat)} {B : Nat} (h : ∀ p ∈ m, p.2 ≤ B) (x : Int) : cnt m x ≤ B := by
  unfold cnt
  cases hf : m.find? fun p => p.1 == x with
  | none => simp
  | some p => simpa using h p (List.mem_of_find?_eq_some hf)
theorem row_blk {w : World} {g : Nat} {t : TypeId} {cs : List Value} (h : Blk w g t cs.toArray) : RowAt w (some ⟨g, 0, none⟩) cs :=
  .inr ⟨g, 0, rfl, h.lt, fun i _ => by rw [Nat.zero_add, h.cell i, List.getElem?_toArray]⟩
/-- What Sizes answers, in all cases. -/
def Answer (w w' : World) (n : Nat) (m : List (Int × Int)) (r : Ending) : Prop :=
  ((n = 0 ∨ 256 < n) ∧ r = .returned (.tuple #[.slice none 0 0, .int .i64 7])) ∨
  ((1 ≤ n ∧ n ≤ 256) ∧ (∃ p ∈ m, ¬ Good p) ∧ r = .returned (.tuple #[.slice none 0 0, .int .i64 2])) ∨
  ((1 ≤ n ∧ n ≤ 256) ∧ (∀ p ∈ m, Good p) ∧ ∃ g L, r = .returned (.tuple #[.slice (some ⟨g, 0, none⟩) n n, .int .i64 0]) ∧ Blk w' g 26 (evs L).toArray ∧ w.heap.size ≤ g ∧ L.length = n ∧ SizesAre (nats m) L)

set_option maxHeartbeats 4000000 in
set_option maxRecDepth 4000 in
theorem sizes_ (b n : Nat) (m : List (Int × Int)) (w : World) (h : IsM Tryd.prog 3 w b (mi m)) (hn : m.length = n) (hs : n ≤ 1000) :
    Calls Tryd.prog 14 #[.map (some b)] w fun r w' => Answer w w' n m r ∧ Keeps (fun _ => False) w w' := by
  have HM := Lib.hid h
  have HN := Lib.hid hn
  have hbw := h.lt
  clear h hn
  obtain ⟨i0, hi0, hz0, hz1, hz2⟩ := info_parts int_info
  obtain ⟨j0, hj0, hy0, hy1, hy2⟩ := info_parts ent_info
  go_enter Tryd.func14, Tryd.ntmps14
  by_cases hmany : 1 ≤ n ∧ n ≤ 256
  · have hd : decide (1 ≤ n ∧ n ≤ 256) = true := by simpa using hmany
    go_wp2_with (first
      | (at_len
         refine wpList_len_m _ rfl _ _ rfl 3 3 Tryd.underlying48 b n (mi m) rfl HM.out (by rw [mi_len]; exact HN.out) ?_)
      | (refine (many_ n w).mono ?_
         rintro e w' ⟨rfl, hw⟩
         rw [hd, hw]
         clear hw)
      | (at_range
         refine wpList_range_m _ rfl _ _ rfl 3 3 int_key Tryd.underlying48 b (mi m) rfl HM.out ?_
         intro w2 hrg2 hk2
         have HR := Lib.hid hrg2
         have HK := Lib.hid hk2
         clear hrg2 hk2))
    go_frame
    have hrl : w.heap.size ≤ w.heap.size := Nat.le_refl _
    obtain ⟨r, hr⟩ : ∃ r, r = w.heap.size := ⟨_, rfl⟩
    rw [← hr] at HR ⊢
    have HRR := Lib.hid hr
    clear hr hrl
    go_loopw [4] (fun _ wr => ∃ (met : List (Int × Int)) (cn : Nat), Rgs Tryd.prog 3 wr b r (mi m) (mi met) cn ∧ (∀ p ∈ met, Good p) ∧ Keeps (fun _ => False) w wr) (fun _ wr => wr.rangeLeft b r)
    case atStart => exact ⟨[], _, HR.out, by simp, HK.out⟩
    case round =>
      clear HR HK
      obtain ⟨met, cn, hrg, hgood, hk⟩ := hrel
      have HR := Lib.hid hrg
      have HG := Lib.hid hgood
      have HK := Lib.hid hk
      clear hrg hgood hk
      go_wp2_with (
        at_next
        refine wpList_next_m _ rfl _ rfl 3 int_key (Value.int .i64) (Value.int .i64) int_shape b r (mi m) (mi met) cn (mi_shape m) rfl HR.out ?_ ?_)
      · intro hperm
        have hpm : met.Perm m := by
          have := hperm.map uni
          rw [uni_mi, uni_mi] at this
          exact this
        have hall : ∀ p ∈ m, Good p := fun p hp => HG.out p (hpm.symm.subset hp)
        have HALL := Lib.hid hall
        have hM2 : IsM Tryd.prog 3 wr b (mv (nats m)) := by rw [mv_nats hall]; exact HR.out.isM
        have HM2 := Lib.hid hM2
        clear hperm hpm hall hM2 HR HG
        go_wp2_with fail
        have hnl : (nats m).length = n := by simpa [nats] using HN.out
        refine (rarest_ b n (nats m) wr HM2.out hnl hs).mono ?_
        rintro e w1 ⟨g1, c1, N, rfl, hown1, hN1, hN2, hk1⟩
        have HN1 := Lib.hid hN1
        have HN2 := Lib.hid hN2
        have HNL : Hid (N.length = n) := by show N.length = n; rw [hN1.length_eq, List.length_map, hnl]
        have HO1 := Lib.hid hown1
        have HM3 := Lib.hid (HM2.out.keeps hk1 id)
        have HK1 := Lib.hid (HK.out.trans hk1)
        have HG1 := Lib.hid (hown1.lt g1 rfl).2
        have HGB : Hid (∀ x ∈ N, -2147483648 ≤ x ∧ x ≤ 2147483648) := by
          intro x hx
          have := hN1.subset hx
          rw [nats_keys, List.mem_map] at this
          obtain ⟨p, hp, rfl⟩ := this
          have := (HALL.out p hp).2
          omega
        have HCB : Hid (∀ x, cnt (nats m) x ≤ 2147483647) := by
          refine fun x => cnt_le (fun p hp => ?_) x
          simp only [nats, List.mem_map] at hp
          obtain ⟨q, hq, rfl⟩ := hp
          have := (HALL.out q hq).1
          simp only
          omega
        clear hown1 hN1 hN2 hk1 HM2 HK hnl
        go_wp2_with (
          at_make
          refine wpList_make_full _ rfl _ _ _ rfl w.heap.size 3 i0 _ 1 Tryd.underlying69 hi0 hz0 hz1 .i64 .i64 _ _ n rfl rfl (by omega) (by omega) (by rw [hz2]; omega) (by simp only [maxLen]; omega) HK1.out.size ?_
          intro w2 hown hg
          rw [made_nums] at hown
          have hk2 : Keeps (fun _ => False) w1 w2 := Keeps.grown (Keeps.refl (fun _ => False) w1) hg (fun _ h => by cases h)
          have HB2 := Lib.hid (own_full hown).1
          have HO2 := Lib.hid (own_keeps HO1.out hk2 (fun _ _ => id))
          have HM4 := Lib.hid (HM3.out.keeps hk2 id)
          have HK2 := Lib.hid (HK1.out.trans hk2)
          clear hown hg hk2)
        clear HO1 HM3
        have hg2l := HK1.out.size
        have hg12 := HG1.out
        have hbg2 : b < w1.heap.size := Nat.lt_of_lt_of_le hbw hg2l
        generalize w1.heap.size = g2 at *
        go_loopw [42] (fun i wx => ∃ d : Nat, d ≤ n ∧ i = .int .i64 (d : Int) ∧ Blk wx g2 3 (nv (fill 0 (N.map (cnt (nats m))) d)).toArray ∧ Keeps (· = g2) w2 wx) (fun i _ => n - (intOf i).toNat)
        case atStart => exact ⟨0, by omega, rfl, by rw [fill_zero, List.length_map, HNL.out]; exact HB2.out, Keeps.refl _ _⟩
        case round =>
          obtain ⟨d, hd, rfl, hbl, hk⟩ := hrel
          have HBL := Lib.hid hbl
          have HK3 := Lib.hid hk
          clear hbl hk
          by_cases hlt : d < n
          · have hdN : d < N.length := by rw [HNL.out]; exact hlt
            obtain ⟨x, hx⟩ : ∃ x, x = N.getD d 0 := ⟨_, rfl⟩
            have hxm : x ∈ N := by rw [hx, List.getD_eq_getElem?_getD, List.getElem?_eq_getElem hdN]; simp
            have hwx := wf_of (HGB.out x hxm)
            have hlook := look_cnt (HM4.out.keeps HK3.out (by omega)) ⟨x, hwx⟩
            have hcx := HCB.out x
            have hc1 : wr.cell? ⟨g1, d, none⟩ = some (.int .i64 x) := by
              have := (HO2.out.cells (g := g1) rfl d (.int .i64 x) (by simp [iv, hx, List.getD_eq_getElem?_getD, List.getElem?_eq_getElem hdN]))
              rw [add_none, Nat.zero_add] at this
              rw [HK3.out.cell (p := ⟨g1, d, none⟩) (by have := (HO2.out.lt g1 rfl).2; exact this) (by simp only; omega)]
              exact this
            have hc2 := HBL.out.cell d
            obtain ⟨v2, hv2⟩ : ∃ v2, (nv (fill 0 (N.map (cnt (nats m))) d)).toArray[d]? = some v2 := ⟨_, Array.getElem?_eq_getElem (by simp only [List.size_toArray, nv_len]; rw [fill_len _ _ (by rw [List.length_map]; omega), List.length_map]; exact hdN)⟩
            rw [hv2] at hc2
            have hf2 := HBL.out.frozen d
            obtain ⟨cx, hcxx⟩ : ∃ cx, cx = cnt (nats m) x := ⟨_, rfl⟩
            simp only [← hcxx] at hlook hcx
            have HSET : Hid (Blk (wr.setCell ⟨g2, d, none⟩ (.int .i64 (cx : Int))) g2 3 (nv (fill 0 (N.map (cnt (nats m))) (d + 1))).toArray) := by
              have h1 := HBL.out.setCell d (.int .i64 (cx : Int))
              have h2 : cx = (N.map (cnt (nats m))).getD d 0 := by
                rw [hcxx, hx]
                simp [List.getD_eq_getElem?_getD, List.getElem?_eq_getElem hdN]
              rw [nv_set, h2, fill_set _ _ (by rw [List.length_map]; exact hdN), ← h2] at h1
              exact h1
            have HKS := Lib.hid (HK3.out.setOwn d (.int .i64 (cx : Int)))
            have hd0 : (0 : Int) ≤ (d : Int) := by omega
            have hd1 : (d : Int) < (n : Int) := by omega
            clear hv2 hcxx hx hxm hwx hdN
            go_wp2
            refine ⟨⟨d + 1, by omega, by go_num, HSET.out, HKS.out⟩, by simp [intOf]; omega⟩
          · obtain rfl : d = n := by omega
            have HCS : Hid (Blk wr g2 3 (nv (N.map (cnt (nats m)))).toArray) := by
              have h1 := HBL.out
              have h2 := fill_all 0 (N.map (cnt (nats m)))
              rw [List.length_map, HNL.out] at h2
              rw [h2] at h1
              exact h1
            have HO4 := Lib.hid (own_keeps HO2.out HK3.out (fun b hb => by have : g1 = b := by simpa [Value.ownBlock] using hb
                                                                           omega))
            have HK4 := Lib.hid (keeps_low HK2.out HK3.out (fun y hy => by omega))
            clear HBL HK3 HB2 HO2 HM4 HK2 hlt
            have hg2r : g2 < wr.heap.size := HCS.out.lt
            go_wp2_with (
              at_make
              refine wpList_make_full _ rfl _ _ _ rfl w.heap.size 26 j0 _ 2 Tryd.underlying24 hj0 hy0 hy1 .i64 .i64 _ _ d rfl rfl (by omega) (by omega) (by rw [hy2]; omega) (by simp only [maxLen]; omega) HK4.out.size ?_
              intro w5 hown hg
              rw [made_ents] at hown
              have hk5 : Keeps (fun _ => False) wr w5 := Keeps.grown (Keeps.refl (fun _ => False) wr) hg (fun _ h => by cases h)
              have HE5 := Lib.hid (own_full hown).1
              have HO5 := Lib.hid (own_keeps HO4.out hk5 (fun _ _ => id))
              have HCS5 := Lib.hid (HCS.out.keeps hk5 id)
              have HK5 := Lib.hid (HK4.out.trans hk5)
              clear hown hg hk5
              go_frame)
            have hg3l : w.heap.size ≤ wr.heap.size := HK4.out.size
            clear HO4 HCS HK4
            generalize wr.heap.size = g3 at *
            obtain ⟨ws, hws⟩ : ∃ ws, ws = N.map (cnt (nats m)) := ⟨_, rfl⟩
            rw [← hws] at HCS5
            have HWS := Lib.hid hws
            have HWL : Hid (ws.length = d) := by show ws.length = d; rw [hws, List.length_map, HNL.out]
            have HWP : Hid (ws.Pairwise (· ≤ ·)) := by show ws.Pairwise (· ≤ ·); rw [hws, List.pairwise_map]; exact HN2.out
            have HWB : Hid (∀ x ∈ ws, x ≤ 2 ^ 31) := by
              intro x hx
              rw [hws, List.mem_map] at hx
              obtain ⟨y, _, rfl⟩ := hx
              have := HCB.out y
              omega
            clear hws
            go_wp2_with (
              refine (sizesOf_ (some ⟨g2, 0, none⟩) d d ws w5 HWL.out (row_blk HCS5.out) (by omega) (by omega) HWP.out HWB.out).mono ?_
              rintro e w6 ⟨g4, rfl, hb6, hl6, hk6⟩
              have HB6 := Lib.hid hb6
              have HL6 := Lib.hid (Nat.lt_of_lt_of_le HE5.out.lt hl6)
              have HE6 := Lib.hid (HE5.out.keeps hk6 id)
              have HO6 := Lib.hid (own_keeps HO5.out hk6 (fun _ _ => id))
              have HK6 := Lib.hid (HK5.out.trans hk6)
              clear hb6 hl6 hk6)
            clear HE5 HO5 HCS5 HK5
            have hg34 := HL6.out
            go_loopw [60] (fun i wx => ∃ e : Nat, e ≤ d ∧ i = .int .i64 (e : Int) ∧ Blk wx g3 26 (evs (fill (0, 0) (N.zip (sizes ws)) e)).toArray ∧ Keeps (· = g3) w6 wx) (fun i _ => d - (intOf i).toNat)
            case atStart => exact ⟨0, by omega, rfl, by rw [fill_zero, List.length_zip, sizes_length, HNL.out, HWL.out, Nat.min_self]; exact HE6.out, Keeps.refl _ _⟩
            case round =>
              obtain ⟨e, he, rfl, hbl, hk⟩ := hrel
              have HBL := Lib.hid hbl
              have HK7 := Lib.hid hk
              clear hbl hk
              have HZL : Hid ((N.zip (sizes ws)).length = d) := by show (N.zip (sizes ws)).length = d; rw [List.length_zip, sizes_length, HNL.out, HWL.out, Nat.min_self]
              by_cases hle : e < d
              · have heN : e < N.length := by rw [HNL.out]; exact hle
                have heS : e < (sizes ws).length := by rw [sizes_length, HWL.out]; exact hle
                obtain ⟨x, hx⟩ : ∃ x, x = N.getD e 0 := ⟨_, rfl⟩
                obtain ⟨z, hz⟩ : ∃ z, z = (sizes ws).getD e 0 := ⟨_, rfl⟩
                have hxz : (x, z) = (N.zip (sizes ws)).getD e (0, 0) := by
                  rw [hx, hz]
                  have hez : e < (N.zip (sizes ws)).length := by rw [HZL.out]; exact hle
                  simp only [List.getD_eq_getElem?_getD, List.getElem?_eq_getElem heN, List.getElem?_eq_getElem heS, List.getElem?_eq_getElem hez, Option.getD_some, List.getElem_zip]
                have hc1 : wr.cell? ⟨g1, e, none⟩ = some (.int .i64 x) := by
                  have := (HO6.out.cells (g := g1) rfl e (.int .i64 x) (by simp [iv, hx, List.getD_eq_getElem?_getD, List.getElem?_eq_getElem heN]))
                  rw [add_none, Nat.zero_add] at this
                  rw [HK7.out.cell (p := ⟨g1, e, none⟩) (by have := (HO6.out.lt g1 rfl).2; exact this) (by simp only; omega)]
                  exact this
                have hc4 : wr.cell? ⟨g4, e, none⟩ = some (.int .i64 (z : Int)) := by
                  rw [(HB6.out.keeps HK7.out (by omega)).cell e]
                  simp [nv, hz, List.getD_eq_getElem?_getD, List.getElem?_eq_getElem heS]
                have hlen : (evs (fill (0, 0) (N.zip (sizes ws)) e)).length = d * 2 := by rw [evs_len, fill_len _ _ (by rw [HZL.out]; omega), HZL.out]
                have hca := HBL.out.cell (e * 2)
                obtain ⟨va, hva⟩ : ∃ va, (evs (fill (0, 0) (N.zip (sizes ws)) e)).toArray[e * 2]? = some va := ⟨_, Array.getElem?_eq_getElem (by simp only [List.size_toArray, hlen]; omega)⟩
                rw [hva] at hca
                have hcb := HBL.out.cell (e * 2 + 1)
                obtain ⟨vb, hvb⟩ : ∃ vb, (evs (fill (0, 0) (N.zip (sizes ws)) e)).toArray[e * 2 + 1]? = some vb := ⟨_, Array.getElem?_eq_getElem (by simp only [List.size_toArray, hlen]; omega)⟩
                rw [hvb] at hcb
                have hfa := HBL.out.frozen (e * 2)
                have hfb := HBL.out.frozen (e * 2 + 1)
                have HSET : Hid (Blk ((wr.setCell ⟨g3, e * 2, none⟩ (.int .i64 x)).setCell ⟨g3, e * 2 + 1, none⟩ (.int .i64 (z : Int))) g3 26 (evs (fill (0, 0) (N.zip (sizes ws)) (e + 1))).toArray) := by
                  have h1 := (HBL.out.setCell (e * 2) (.int .i64 x)).setCell (e * 2 + 1) (.int .i64 (z : Int))
                  rw [List.setIfInBounds_toArray, List.setIfInBounds_toArray, evs_set _ e (x, z), hxz, fill_set _ _ (by rw [HZL.out]; exact hle)] at h1
                  exact h1
                have HKS := Lib.hid ((HK7.out.setOwn (e * 2) (.int .i64 x)).setOwn (e * 2 + 1) (.int .i64 (z : Int)))
                have he0 : (0 : Int) ≤ (e : Int) := by omega
                have he1 : (e : Int) < (d : Int) := by omega
                clear hva hvb hxz hx hz heN heS hlen
                go_wp2
                refine ⟨⟨e + 1, by omega, by go_num, HSET.out, HKS.out⟩, by simp [intOf]; omega⟩
              · obtain rfl : e = d := by omega
                have HFU : Hid (Blk wr g3 26 (evs (N.zip (sizes ws))).toArray) := by
                  have h1 := HBL.out
                  have h2 := fill_all (0, 0) (N.zip (sizes ws))
                  rw [HZL.out] at h2
                  rw [h2] at h1
                  exact h1
                have HK8 := Lib.hid (keeps_low HK6.out HK7.out (fun y hy => by omega))
                clear HBL HK7 HE6 HK6 HB6 HO6 hle
                go_wp2_with fail
                refine (sort_ents g3 e _ wr HFU.out HZL.out (by omega)).mono ?_
                rintro r9 w9 ⟨rfl, hk9, L, hL1, hL2, hL3⟩
                have HEND : Hid (Answer w w9 e m (.returned (.tuple #[.slice (some ⟨g3, 0, none⟩) e e, .int .i64 0]))) := by
                  refine .inr (.inr ⟨hmany, HALL.out, g3, L, rfl, hL3, hg3l, by rw [hL1.length_eq, HZL.out], ⟨⟨N, HN1.out, HN2.out, by rw [← HWS.out]; exact hL1⟩, ?_⟩⟩)
                  refine rise_of ?_ HN1.out ?_ hL1 hL2
                  · rw [nats_keys]
                    have h1 := HM.out.nd
                    have h2 : (mi m).map (·.1) = (m.map (·.1)).map (Lit.int .i64) := by simp [mi, Function.comp_def]
                    rw [h2] at h1
                    exact nodup_of_map h1
                  · rw [sizes_length, HWL.out, HNL.out]
                have HK9 := Lib.hid (keeps_low HK8.out hk9 (fun y hy => by omega))
                clear hk9 hL1 hL2 hL3 HFU
                go_wp2
                go_ret2
                exact ⟨HEND.out, HK9.out⟩
      · intro x c kl w2 cn2 hkey hmem hnew hrg2 hlt hk2 hen
        obtain ⟨x', hx1, rfl, hwx⟩ := Go.Maps.keyOf_int_inv Tryd.underlying3 hkey
        injection hx1 with _ hx1
        subst hx1
        have hmt : mi met ++ [(Lit.int .i64 x, Value.int .i64 c)] = mi (met ++ [(x, c)]) := by rw [mi_app]; rfl
        rw [hmt] at hrg2
        have HR2 := Lib.hid hrg2
        have HME := Lib.hid (mi_mem hmem)
        have HK2 := Lib.hid (keeps_low HK.out hk2 (fun y hy => by have := HRR.out; omega))
        have HLT := Lib.hid hlt
        clear hkey hmem hnew hrg2 hlt hk2 hmt hwx
        by_cases hgd : Good (x, c)
        · have h1 : ¬ c < 1 := by have := hgd.1; simp only at this; omega
          have h2 : ¬ c > 2147483647 := by have := hgd.1; simp only at this; omega
          have h3 : decide (-2147483647 ≤ x ∧ x ≤ 2147483647) = true := by simpa using hgd.2
          have HGD := Lib.hid hgd
          clear hgd
          go_wp2_with (
            refine (num_ x w2).mono ?_
            rintro e w' ⟨rfl, hw⟩
            rw [h3, hw]
            clear hw)
          refine ⟨⟨met ++ [(x, c)], cn2, HR2.out, ?_, HK2.out⟩, ?_⟩
          · intro p hp
            rcases List.mem_append.1 hp with hp | hp
            · exact HG.out p hp
            · rw [List.mem_singleton] at hp
              rw [hp]
              exact HGD.out
          · rw [HR2.out.left_eq, HR.out.left_eq]
            exact HLT.out
        · have HBAD : Hid (Answer w w2 n m (.returned (.tuple #[.slice none 0 0, .int .i64 2]))) := .inr (.inl ⟨hmany, ⟨(x, c), HME.out, hgd⟩, rfl⟩)
          by_cases h1 : c < 1
          · clear hgd
            go_wp2_with fail
            go_ret2
            exact ⟨HBAD.out, HK2.out⟩
          · by_cases h2 : c > 2147483647
            · clear hgd
              go_wp2_with fail
              go_ret2
              exact ⟨HBAD.out, HK2.out⟩
            · have h3 : decide (-2147483647 ≤ x ∧ x ≤ 2147483647) = false := by
                rw [decide_eq_false_iff_not]
                exact fun h => hgd ⟨by simp only; omega, h⟩
              clear hgd
              go_wp2_with (
                refine (num_ x w2).mono ?_
                rintro e w' ⟨rfl, hw⟩
                rw [h3, hw]
                clear hw)
              go_ret2
              exact ⟨HBAD.out, HK2.out⟩
  · have hd : decide (1 ≤ n ∧ n ≤ 256) = false := by simpa using hmany
    go_wp2_with (first
      | (at_len
         refine wpList_len_m _ rfl _ _ rfl 3 3 Tryd.underlying48 b n (mi m) rfl HM.out (by rw [mi_len]; exact HN.out) ?_)
      | (refine (many_ n w).mono ?_
         rintro e w' ⟨rfl, hw⟩
         rw [hd, hw]
         clear hw))
    go_ret2
    exact ⟨.inl ⟨by omega, rfl⟩, Keeps.refl _ _⟩
end Go.Proofs.YtaamnbminmcbpaaDoor.Hz
