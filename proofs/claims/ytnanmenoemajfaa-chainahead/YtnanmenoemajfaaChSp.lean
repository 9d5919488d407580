/- Of each pair that may come the second one's parts (chain.tables.spans). -/
import Derived.Test.YtnanmenoemajfaaChEq
import Derived.Test.YtnanmenoemajfaaFrqFind
namespace Go.Proofs.Ytnanmenoemajfaa.Cq
open Go.RowKit Go.Proofs.Ytnanmenoemajfaa.Gen Go.Proofs.Ytnanmenoemajfaa.Wr Go.Proofs.Ytnanmenoemajfaa.It Go.Proofs.Ytnanmenoemajfaa.Fq Go.Proofs.Ytnanmenoemajfaa.Rp Go.Proofs.Ytnanmenoemajfaa.Ch Go.Proofs.Ytnanmenoemajfaa.Cm Go.Proofs.Ytnanmenoemajfaa.Ck

/-- Where a pair's parts begin, and how many it has. -/
def spv (l : List Int) (c : Nat) : Value := .agg #[.int .i64 ((stt l (c : Int) : Nat) : Int), .int .i64 ((prt l (c : Int) : Nat) : Int)]
def spV (tb : Nat → Option (List Int)) (i : Nat) : Option Value := (tb (i / 256)).bind fun l => if 0 < l.getD (i % 256) 0 then some (spv l (i % 256)) else none
def spS (tb : Nat → Option (List Int)) (seen : List Nat) (i : Nat) : Option Value := if i / 256 ∈ seen then spV tb i else none
def spD (tb : Nat → Option (List Int)) (seen : List Nat) (a d : Nat) (i : Nat) : Option Value := if i / 256 ∈ seen then spV tb i else if i / 256 = a ∧ i % 256 < d then spV tb i else none
theorem spD_zero (tb : Nat → Option (List Int)) (seen : List Nat) (a : Nat) : spD tb seen a 0 = spS tb seen := by
  funext i
  unfold spD spS
  split
  · rfl
  · rw [if_neg (by omega)]
theorem spD_all (tb : Nat → Option (List Int)) (seen : List Nat) (a : Nat) : spD tb seen a 256 = spS tb (seen ++ [a]) := by
  funext i
  unfold spD spS
  by_cases h : i / 256 ∈ seen
  · rw [if_pos h, if_pos (by simp [h])]
  · rw [if_neg h]
    by_cases e : i / 256 = a
    · rw [if_pos ⟨e, by omega⟩, if_pos (by simp [e])]
    · rw [if_neg (fun h2 => e h2.1), if_neg (by simp [h, e])]
theorem spD_put {tb : Nat → Option (List Int)} {seen : List Nat} {a d : Nat} {l : List Int} (hd : d < 256) (ha : a ∉ seen) (hl : tb a = some l) (hp : 0 < l.getD d 0) : putF (spD tb seen a d) (256 * a + d) (spv l d) = spD tb seen a (d + 1) := by
  funext i
  unfold putF spD
  by_cases e : i = 256 * a + d
  · subst e
    rw [if_pos rfl, show (256 * a + d) / 256 = a by omega, show (256 * a + d) % 256 = d by omega, if_neg ha, if_pos ⟨rfl, by omega⟩, spV, show (256 * a + d) / 256 = a by omega, show (256 * a + d) % 256 = d by omega, hl]
    simp only [Option.bind_some]
    rw [if_pos hp]
  · rw [if_neg e]
    split
    · rfl
    · by_cases h : i / 256 = a ∧ i % 256 < d
      · rw [if_pos h, if_pos ⟨h.1, by omega⟩]
      · rw [if_neg h, if_neg (by omega)]
theorem spD_skip {tb : Nat → Option (List Int)} {seen : List Nat} {a d : Nat} {l : List Int} (hl : tb a = some l) (hp : ¬ 0 < l.getD d 0) : spD tb seen a d = spD tb seen a (d + 1) := by
  funext i
  unfold spD
  split
  · rfl
  · by_cases h : i / 256 = a ∧ i % 256 < d
    · rw [if_pos h, if_pos ⟨h.1, by omega⟩]
    · rw [if_neg h]
      by_cases h2 : i / 256 = a ∧ i % 256 < d + 1
      · rw [if_pos h2, spV, h2.1, hl, show i % 256 = d by omega]
        simp only [Option.bind_some]
        rw [if_neg hp]
      · rw [if_neg h2]

set_option maxHeartbeats 8000000 in
set_option maxRecDepth 100000 in
theorem spans_ (b : Nat) (tb : Nat → Option (List Int)) (w : World) (hm : IsF Try.prog 5 256 bkl w b (tabV tb)) (ht : ∀ a l, tb a = some l → Tb l) :
    Calls Try.prog 12 #[.map (some b)] w fun r w' => ∃ s, r = .returned (.map (some s)) ∧ IsF Try.prog 75 65536 pkl w' s (spV tb) ∧ w.heap.size ≤ s ∧ Keeps (fun _ => False) w w' := by
  have hmm := @run_makeMap Try.prog
  have HM := Lib.hid hm
  have HT := Lib.hid ht
  have hz : ∀ w, (zeroValue 65).run Try.prog w = .ok (.agg (vs zs)) w := tab_zero
  have HZS : Hid ((vs zs).size = 256) := by show _ = _; rw [vs_size, zs_len]
  have hz2 : ∀ w, (zeroValue 86).run Try.prog w = .ok (.agg (vs (List.replicate 257 0))) w := long_zero
  have HZ2 : Hid ((vs (List.replicate 257 0)).size = 257) := by show _ = _; rw [vs_size, List.length_replicate]
  generalize hZ : vs zs = Z at hz HZS
  generalize hZ2 : vs (List.replicate 257 (0 : Int)) = Z2 at hz2 HZ2
  clear hm ht hZ hZ2
  go_enter Try.func12, Try.ntmps12
  go_upto_region 2 with fail
  obtain ⟨s, hs⟩ : ∃ s, w.heap.size = s := ⟨_, rfl⟩
  have HS0 := Lib.hid (IsF.new Try.prog 75 65536 pkl w)
  have HK0 : Hid (Keeps (fun _ => False) w (w.alloc (.map #[] 0))) := (Keeps.refl _ _).alloc _
  generalize w.alloc (.map #[] 0) = W0 at HS0 HK0 ⊢
  rw [hs] at HS0 ⊢
  have HSE := Lib.hid hs
  have HBS : Hid (b < s) := by show b < s; rw [← hs]; exact HM.out.lt
  clear hs
  have HM0 := Lib.hid (HM.out.keeps HK0.out id)
  go_upto_region 3 with (
    at_range
    refine wpList_range_f _ byte_ks rfl _ _ rfl 65 Try.underlying40 b (tabV tb) rfl HM0.out ?_
    intro w2 cn hrg2 hk2
    have HRG := Lib.hid hrg2
    have HS2 := Lib.hid (HS0.out.keeps hk2 id)
    have HK2 := Lib.hid (HK0.out.trans hk2)
    have HSR := Lib.hid HS0.out.lt
    clear hrg2 hk2 HS0 HK0 HM0)
  obtain ⟨r1, hr1⟩ : ∃ r1, W0.heap.size = r1 := ⟨_, rfl⟩
  rw [hr1] at HRG HSR ⊢
  clear hr1
  go_frame
  go_loopw [4, 5, 6, 7, 8] (fun _ _ _ _ _ wr => ∃ (seen : List Nat) (cn : Nat), RgF Try.prog 5 256 bkl wr b r1 (tabV tb) seen cn ∧ IsF Try.prog 75 65536 pkl wr s (spS tb seen) ∧ Keeps (fun _ => False) w wr) (fun _ _ _ _ _ wr => wr.rangeLeft b r1)
  case atStart =>
    refine ⟨[], cn, HRG.out, ?_, HK2.out⟩
    have : spS tb [] = fun _ => none := by funext i; simp [spS]
    rw [this]
    exact HS2.out
  case round =>
    clear HRG HS2 HK2
    obtain ⟨seen, cn, hrg, hsp, hk⟩ := hrel
    have HG := Lib.hid hrg
    have HSP := Lib.hid hsp
    have HK := Lib.hid hk
    clear hrg hsp hk
    go_wp2_with (
      at_next
      refine wpList_next_f _ byte_ks rfl _ rfl b r1 (tabV tb) seen cn rfl HG.out ?_ ?_)
    · intro hall
      have HF : Hid (IsF Try.prog 75 65536 pkl wr s (spV tb)) := by
        refine Lib.hid (HSP.out.congr fun i hi => ?_)
        unfold spS
        split
        · rfl
        · next hn =>
          have hv : tabV tb (i / 256) = none := Classical.byContradiction fun h => hn (hall _ (by omega) h)
          cases htb : tb (i / 256) with
          | none => rw [spV, htb]; rfl
          | some l => rw [tabV, htb] at hv; cases hv
      clear hall HG HSP
      go_wp2_with fail
      go_ret
      exact ⟨s, rfl, HF.out, by rw [← HSE.out]; exact Nat.le_refl _, HK.out⟩
    · intro a v w3 cn3 ha hv hns hrg3 hlt3 hk3 hen
      obtain ⟨l, hl⟩ : ∃ l, tb a = some l := by
        cases hx : tb a with
        | none => rw [tabV, hx] at hv; cases hv
        | some l => exact ⟨l, rfl⟩
      obtain ⟨V, hV⟩ : ∃ V, vs l = V := ⟨_, rfl⟩
      obtain rfl : v = .agg V := by
        have h : tabV tb a = some (.agg V) := by rw [tabV, hl, ← hV]; rfl
        rw [h] at hv
        injection hv with hv
        exact hv.symm
      have hT := HT.out a l hl
      obtain ⟨U, hU⟩ : ∃ U, vs (sta l 256) = U := ⟨_, rfl⟩
      have HST := Lib.hid (fun W => starts l V U W hV hU hT.len hT.fine)
      have HK3 : Hid (Keeps (fun _ => False) w w3) := Lib.hid (keeps_low HK.out hk3 (fun z hz => by subst hz; have := HSR.out; have := HSE.out; omega))
      have HG3 := Lib.hid hrg3
      have HSP3 := Lib.hid (HSP.out.keeps hk3 (fun e => by have := HSR.out; omega))
      have HLT : Hid (cn3 < wr.rangeLeft b r1) := by show _ < _; rw [HG.out.left_eq]; exact hlt3
      have HVI : Hid ((Try.prog.info? 65).map (·.size) = some V.size) := by show _ = _; rw [← hV]; exact tab_size hT.len
      have HV1 : Hid (V.all (·.oneCell') = true) := by show _ = _; rw [← hV]; exact vs_one _
      have HVZ : Hid (Z.size = V.size) := by show _ = _; rw [HZS.out, ← hV, vs_size, hT.len]
      have HUI : Hid ((Try.prog.info? 86).map (·.size) = some U.size) := by show _ = _; rw [← hU]; exact long_size (sta_len _ _)
      have HU1 : Hid (U.all (·.oneCell') = true) := by show _ = _; rw [← hU]; exact vs_one _
      have HUZ : Hid (Z2.size = U.size) := by show _ = _; rw [HZ2.out, ← hU, vs_size, sta_len]
      have HV := Lib.hid hV
      have HU := Lib.hid hU
      have HA := Lib.hid ha
      have HL := Lib.hid hl
      have HTb := Lib.hid hT
      have HNS := Lib.hid hns
      unfold bkv at hen ⊢
      clear hv hns hrg3 hlt3 hk3 HG HSP HK hV hU hT ha hl
      go_upto_region 5 with ((with_reducible refine st_row (Blk.new _ 65 Z) HVI.out HVZ.out HV1.out ?_ ?_ ?_); rfl; rfl)
      obtain ⟨p, hp⟩ : ∃ p, w3.heap.size = p := ⟨_, rfl⟩
      have HB4 : Hid (Blk ((w3.alloc (.cells Z 65)).setRow w3.heap.size V) w3.heap.size 65 V) := new_put
      have HK4 : Hid (Keeps (fun _ => False) w3 ((w3.alloc (.cells Z 65)).setRow w3.heap.size V)) := Keeps.put_new (Keeps.refl _ _)
      generalize (w3.alloc (.cells Z 65)).setRow w3.heap.size V = W4 at HB4 HK4 ⊢
      rw [hp] at HB4 ⊢
      clear hp hen
      go_upto_region 6 with (first
        | ((with_reducible refine ld_row HB4.out Try.underlying65 HVI.out ?_ ?_); rfl)
        | (go_at_call 34
           refine (HST.out _).mono ?_
           rintro e w5 ⟨rfl, hk5⟩
           have HB5 := Lib.hid (HB4.out.keeps hk5 id)
           have HK5 := Lib.hid (HK4.out.trans hk5)
           clear hk5 HB4 HK4)
        | ((with_reducible refine st_row (Blk.new _ 86 Z2) HUI.out HUZ.out HU1.out ?_ ?_ ?_); rfl; rfl))
      obtain ⟨q, hq⟩ : ∃ q, w5.heap.size = q := ⟨_, rfl⟩
      have HB6 : Hid (Blk ((w5.alloc (.cells Z2 86)).setRow w5.heap.size U) w5.heap.size 86 U) := new_put
      have HKa : Hid (Keeps (fun _ => False) w5 ((w5.alloc (.cells Z2 86)).setRow w5.heap.size U)) := Keeps.put_new (Keeps.refl _ _)
      generalize (w5.alloc (.cells Z2 86)).setRow w5.heap.size U = W6 at HB6 HKa ⊢
      rw [hq] at HB6 ⊢
      clear hq
      have HB6t := Lib.hid (HB5.out.keeps HKa.out id)
      have HK6 := Lib.hid (HK5.out.trans HKa.out)
      have HG6 := Lib.hid (HG3.out.keeps HK6.out id id)
      have HS6 := Lib.hid (HSP3.out.keeps HK6.out id)
      have HKw6 := Lib.hid (HK3.out.trans HK6.out)
      have HQS : Hid (q ≠ s) := HS6.out.ne_blk HB6.out
      clear HB5 HK5 HKa HK6 HG3 HSP3 HK3
      go_wp2_with ((with_reducible refine ld_row HB6t.out Try.underlying65 HVI.out ?_ ?_); rfl)
      go_loopw [7, 8, 20] (fun _ _ iv wr => ∃ d : Nat, iv = .int .i64 (d : Int) ∧ d ≤ 256 ∧ Hid (IsF Try.prog 75 65536 pkl wr s (spD tb seen a d) ∧ Keeps (· = s) W6 wr)) (fun _ _ iv _ => 256 - (intOf iv).toNat)
      case atStart => exact ⟨0, rfl, by omega, Lib.hid ⟨by rw [spD_zero]; exact HS6.out, Keeps.refl _ _⟩⟩
      case round =>
        clear HS6
        obtain ⟨d, rfl, hd, HH⟩ := hrel
        by_cases hlt : d < 256
        · have hd0 : (0 : Int) ≤ (d : Int) := by omega
          have hd1 : (d : Int) < 256 := by omega
          have hd2 : (d : Int) < 257 := by omega
          have hfin := HTb.out.fine _ (getD_mem (l := l) (d := d) (by rw [HTb.out.len]; exact hlt))
          obtain ⟨x, hx⟩ : ∃ x : Nat, l.getD d 0 = (x : Int) := ⟨(l.getD d 0).toNat, by omega⟩
          have hxp : prt l (d : Int) = x := by simp only [prt, Int.toNat_natCast, hx]
          have hsb := (sum_bound HTb.out.fine HTb.out.len d).1
          obtain ⟨y, hy⟩ : ∃ y : Nat, stt l (d : Int) = y := ⟨_, rfl⟩
          have hys : (l.take d).sum = (y : Int) := by rw [← hy]; simp only [stt, Int.toNat_natCast]; omega
          have hgd : ∀ w, (Instr.index 65 (.agg V) (.int .i64 (d : Int))).run Try.prog w = .ok (.int .i64 (x : Int)) w := run_idx 65 256 Try.underlying65 V .i64 d _ hlt (by rw [← HV.out, vs_get (by rw [HTb.out.len]; exact hlt), hx])
          have hcell : wr.cell? ⟨q, d, none⟩ = some (.int .i64 (y : Int)) := by
            rw [(HB6.out.keeps HH.out.2 HQS.out).cell, ← HU.out, vs_get (by rw [sta_len]; omega), sta_get _ _ (by omega), if_pos (by omega), hys]
          have hwd : IntKind.u8.wrap (d : Int) = (d : Int) := IntWalk.u8_in _ (by omega)
          have HD := Lib.hid hlt
          have hA := HA.out
          by_cases hp : 0 < x
          · have hxi : (0 : Int) < (x : Int) := by omega
            have HE : Hid (putF (spD tb seen a d) (256 * a + d) (.agg #[.int .i64 (y : Int), .int .i64 (x : Int)]) = spD tb seen a (d + 1)) := by
              show _ = _
              rw [← spD_put hlt HNS.out HL.out (by rw [hx]; exact hxi), spv, hy, hxp]
            clear hfin hx hxp hsb hy hys hlt hd
            go_wp2_with (
              at_mapUpdate
              refine wpList_update_f _ pair_ks rfl (.tmp 26) (.tmp 30) (.tmp 35) _ rfl 82 Try.underlying47 s (spD tb seen a d) rfl HH.out.1 (by omega) (256 * a + d) (by have := HD.out; omega) (.agg #[.int .i64 (y : Int), .int .i64 (x : Int)]) (pkv_at HD.out).symm rfl ?_
              intro w7 hf7 hk7
              rw [HE.out] at hf7
              have HF7 := Lib.hid hf7
              have HK7 := Lib.hid (HH.out.2.trans hk7)
              clear hf7 hk7)
            exact ⟨⟨d + 1, by go_num, HD.out, Lib.hid ⟨HF7.out, HK7.out⟩⟩, by have := HD.out; simp [intOf]; omega⟩
          · have hxi : ¬ ((0 : Int) < (x : Int)) := by omega
            have HNX : Hid (IsF Try.prog 75 65536 pkl wr s (spD tb seen a (d + 1)) ∧ Keeps (· = s) W6 wr) := by
              refine Lib.hid ⟨?_, HH.out.2⟩
              rw [← spD_skip HL.out (by rw [hx]; exact hxi)]
              exact HH.out.1
            clear hfin hx hxp hsb hy hys hlt hd HH
            go_wp2_with fail
            exact ⟨⟨d + 1, by go_num, HD.out, HNX⟩, by have := HD.out; simp [intOf]; omega⟩
        · obtain rfl : d = 256 := by omega
          have hge : ¬ ((256 : Int) < 256) := by omega
          have HF9 : Hid (IsF Try.prog 75 65536 pkl wr s (spS tb (seen ++ [a]))) := by
            refine Lib.hid ?_
            rw [← spD_all]
            exact HH.out.1
          have HR9 := Lib.hid (HG6.out.keeps HH.out.2 (fun e => by have := HBS.out; omega) (fun e => by have := HSR.out; omega))
          have HK9 : Hid (Keeps (fun _ => False) w wr) := Lib.hid (keeps_low HKw6.out HH.out.2 (fun z hz => by subst hz; have := HSE.out; omega))
          clear hlt hd HH
          go_wp2_with fail
          refine ⟨⟨seen ++ [a], cn3, HR9.out, HF9.out, HK9.out⟩, ?_⟩
          exact Nat.lt_of_le_of_lt (Nat.le_of_eq HR9.out.left_eq) HLT.out
end Go.Proofs.Ytnanmenoemajfaa.Cq
