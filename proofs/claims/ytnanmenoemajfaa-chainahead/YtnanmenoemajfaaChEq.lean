/- Two maps of tables are the same if their tables are (maps.Equal). -/
import Derived.Test.YtnanmenoemajfaaChTP
import Derived.Test.YtnanmenoemajfaaFrqEq
namespace Go.Proofs.Ytnanmenoemajfaa.Cq
open Go.RowKit Go.Proofs.Ytnanmenoemajfaa.Gen Go.Proofs.Ytnanmenoemajfaa.Wr Go.Proofs.Ytnanmenoemajfaa.It Go.Proofs.Ytnanmenoemajfaa.Fq Go.Proofs.Ytnanmenoemajfaa.Rp Go.Proofs.Ytnanmenoemajfaa.Ch Go.Proofs.Ytnanmenoemajfaa.Cm Go.Proofs.Ytnanmenoemajfaa.Ck

theorem tbN_sub {x y : Nat → Option (List Int)} : ∀ {d : Nat}, (∀ a, a < d → x a ≠ none → x a = y a) → tbN x d ≤ tbN y d ∧ (tbN x d = tbN y d → ∀ a, a < d → x a = y a)
  | 0, _ => ⟨Nat.le_refl _, fun _ a ha => by omega⟩
  | d + 1, h => by
    obtain ⟨h1, h2⟩ := tbN_sub (d := d) fun a ha => h a (by omega)
    have hd := h d (by omega)
    cases hx : x d with
    | none =>
      cases hy : y d with
      | none =>
        rw [(tbB_none hx).2, (tbB_none hy).2]
        refine ⟨h1, fun e a ha => ?_⟩
        by_cases e2 : a = d
        · rw [e2, hx, hy]
        · exact h2 e a (by omega)
      | some l =>
        rw [(tbB_none hx).2, (tbB_some hy).2]
        exact ⟨by omega, fun e => by omega⟩
    | some l =>
      have hxy := hd (by rw [hx]; simp)
      have hy : y d = some l := by rw [← hxy]; exact hx
      rw [(tbB_some hx).2, (tbB_some hy).2]
      refine ⟨by omega, fun e a ha => ?_⟩
      by_cases e2 : a = d
      · rw [e2]; exact hxy
      · exact h2 (by omega) a (by omega)

set_option maxHeartbeats 8000000 in
set_option maxRecDepth 100000 in
theorem teq_ (b1 b2 : Nat) (x y : Nat → Option (List Int)) (res : Bool) (w : World) (h1 : IsF Try.prog 5 256 bkl w b1 (tabV x)) (h2 : IsF Try.prog 5 256 bkl w b2 (tabV y)) (hx : ∀ a l, x a = some l → l.length = 256) (hy : ∀ a l, y a = some l → l.length = 256) (hr : decide (SameT x y) = res) :
    Calls Try.prog 25 #[.map (some b1), .map (some b2)] w fun r w' => r = .returned (.bool res) ∧ Keeps (fun _ => False) w w' := by
  have H1 := Lib.hid h1
  have H2 := Lib.hid h2
  have HX := Lib.hid hx
  have HY := Lib.hid hy
  have HR := Lib.hid hr
  obtain ⟨N1, hN1⟩ : ∃ N1, tbN x 256 = N1 := ⟨_, rfl⟩
  obtain ⟨N2, hN2⟩ : ∃ N2, tbN y 256 = N2 := ⟨_, rfl⟩
  have HN1 := Lib.hid hN1
  have HN2 := Lib.hid hN2
  have hz : ∀ w, (zeroValue 65).run Try.prog w = .ok (.agg (vs zs)) w := tab_zero
  have HZS : Hid ((vs zs).size = 256) := by show _ = _; rw [vs_size, zs_len]
  generalize hZ : vs zs = Z at hz HZS
  clear h1 h2 hx hy hr hN1 hN2 hZ
  go_enter Try.func25, Try.ntmps25
  by_cases hne : N1 = N2
  · subst hne
    go_upto_region 4 with (first
      | (at_len
         refine wpList_len_f byte_ks rfl (.tmp 9) _ rfl 65 Try.underlying40 b1 N1 (tabV x) rfl H1.out (by rw [cntF_tab]; exact HN1.out) ?_)
      | (at_len
         refine wpList_len_f byte_ks rfl (.tmp 11) _ rfl 65 Try.underlying40 b2 N1 (tabV y) rfl H2.out (by rw [cntF_tab]; exact HN2.out) ?_)
      | (at_range
         refine wpList_range_f _ byte_ks rfl _ _ rfl 65 Try.underlying40 b1 (tabV x) rfl H1.out ?_
         intro w2 cn hrg2 hk2
         have HRG := Lib.hid hrg2
         have HK2 := Lib.hid hk2
         have HS2 := Lib.hid H1.out.lt
         clear hrg2 hk2))
    obtain ⟨r1, hr1⟩ : ∃ r1, w.heap.size = r1 := ⟨_, rfl⟩
    rw [hr1] at HRG HS2 ⊢
    have HRE := Lib.hid hr1
    clear hr1
    go_frame
    go_loopw [5, 6, 7, 8] (fun _ _ _ _ wr => ∃ (seen : List Nat) (cn : Nat), RgF Try.prog 5 256 bkl wr b1 r1 (tabV x) seen cn ∧ (∀ a ∈ seen, x a = y a) ∧ Keeps (fun _ => False) w wr) (fun _ _ _ _ wr => wr.rangeLeft b1 r1)
    case atStart => exact ⟨[], cn, HRG.out, by simp, HK2.out⟩
    case round =>
      clear HRG HK2
      obtain ⟨seen, cn, hrg, hs, hk⟩ := hrel
      have HG := Lib.hid hrg
      have HS := Lib.hid hs
      have HK := Lib.hid hk
      clear hrg hs hk
      go_wp2_with (
        at_next
        refine wpList_next_f _ byte_ks rfl _ rfl b1 r1 (tabV x) seen cn rfl HG.out ?_ ?_)
      · intro hall
        have hsame : SameT x y := by
          refine (tbN_sub (d := 256) fun a ha hn => HS.out a (hall a ha ?_)).2 (by rw [HN1.out, HN2.out])
          cases hx : x a with
          | none => exact absurd hx hn
          | some l => simp [tabV, hx]
        obtain rfl : res = true := by rw [← HR.out]; exact decide_eq_true hsame
        clear hall hsame HG HS
        go_wp2_with fail
        go_ret
        exact ⟨rfl, HK.out⟩
      · intro a v w3 cn3 ha hv hns hrg3 hlt3 hk3 hen
        obtain ⟨l, hl⟩ : ∃ l, x a = some l := by
          cases hx : x a with
          | none => rw [tabV, hx] at hv; cases hv
          | some l => exact ⟨l, rfl⟩
        obtain ⟨V, hV⟩ : ∃ V, vs l = V := ⟨_, rfl⟩
        obtain rfl : v = .agg V := by
          have h : tabV x a = some (.agg V) := by rw [tabV, hl, ← hV]; rfl
          rw [h] at hv
          injection hv with hv
          exact hv.symm
        have hll := HX.out a l hl
        have HK3 : Hid (Keeps (fun _ => False) w w3) := Lib.hid (keeps_low HK.out hk3 (fun z hz => by subst hz; have := HRE.out; omega))
        have HG3 := Lib.hid hrg3
        have HLT : Hid (cn3 < wr.rangeLeft b1 r1) := by show _ < _; rw [HG.out.left_eq]; exact hlt3
        have HVI : Hid ((Try.prog.info? 65).map (·.size) = some V.size) := by show _ = _; rw [← hV]; exact tab_size hll
        have HV1 : Hid (V.all (·.oneCell') = true) := by show _ = _; rw [← hV]; exact vs_one _
        have HVZ : Hid (Z.size = V.size) := by show _ = _; rw [HZS.out, ← hV, vs_size, hll]
        have HA := Lib.hid ha
        have HL := Lib.hid hl
        unfold bkv at hen ⊢
        clear hv hns hrg3 hlt3 hk3 HG HK
        -- the first table lies in a variable
        go_upto_region 6 with ((with_reducible refine st_row (Blk.new _ 65 Z) HVI.out HVZ.out HV1.out ?_ ?_ ?_); rfl; rfl)
        obtain ⟨p, hp⟩ : ∃ p, w3.heap.size = p := ⟨_, rfl⟩
        have HB4 : Hid (Blk ((w3.alloc (.cells Z 65)).setRow w3.heap.size V) w3.heap.size 65 V) := new_put
        have HK4 : Hid (Keeps (fun _ => False) w3 ((w3.alloc (.cells Z 65)).setRow w3.heap.size V)) := Keeps.put_new (Keeps.refl _ _)
        generalize (w3.alloc (.cells Z 65)).setRow w3.heap.size V = W4 at HB4 HK4 ⊢
        rw [hp] at HB4 ⊢
        have HG4 := Lib.hid (HG3.out.keeps HK4.out id id)
        have HKw4 := Lib.hid (HK3.out.trans HK4.out)
        clear hp hen HK4 HG3 HK3
        have hM2 : IsF Try.prog 5 256 bkl W4 b2 (tabV y) := H2.out.keeps HKw4.out id
        cases hya : y a with
        | none =>
          have hlk : (Instr.lookup 40 (.map (some b2)) (.int .u8 (a : Int)) true).run Try.prog W4 = .ok (.tuple #[.agg Z, .bool false]) W4 := ((hM2.look byte_ks Try.underlying40 (hz W4) ha).2 (by rw [tabV, hya]; rfl)).2
          have hZI : Hid ((Try.prog.info? 65).map (·.size) = some Z.size) := by show _ = _; rw [HVZ.out]; exact HVI.out
          have hZ1 : Hid (Z.all (·.oneCell') = true) := by
            show _ = _
            have h1 := (hz W4).symm.trans (tab_zero W4)
            injection h1 with h1
            injection h1 with h1
            rw [h1]
            exact vs_one _
          obtain rfl : res = false := by
            rw [← HR.out]
            refine decide_eq_false fun h => ?_
            have := h a ha
            rw [HL.out, hya] at this
            cases this
          have HKn : Hid (Keeps (fun _ => False) W4 ((W4.alloc (.cells Z 65)).setRow W4.heap.size Z)) := Keeps.put_new (Keeps.refl _ _)
          clear hM2 hya ha hl hll hV
          go_wp2_with ((with_reducible refine st_row (Blk.new _ 65 Z) hZI.out rfl hZ1.out ?_ ?_ ?_); rfl; rfl)
          go_ret
          exact ⟨rfl, HKw4.out.trans HKn.out⟩
        | some l2 =>
          obtain ⟨V2, hV2⟩ : ∃ V2, vs l2 = V2 := ⟨_, rfl⟩
          have hll2 := HY.out a l2 hya
          have hlk : (Instr.lookup 40 (.map (some b2)) (.int .u8 (a : Int)) true).run Try.prog W4 = .ok (.tuple #[.agg V2, .bool true]) W4 := ((hM2.look byte_ks Try.underlying40 (hz W4) ha).1 (.agg V2) (by rw [tabV, hya, ← hV2]; rfl)).2
          have HVI2 : Hid ((Try.prog.info? 65).map (·.size) = some V2.size) := by show _ = _; rw [← hV2]; exact tab_size hll2
          have HV12 : Hid (V2.all (·.oneCell') = true) := by show _ = _; rw [← hV2]; exact vs_one _
          have HVZ2 : Hid (Z.size = V2.size) := by show _ = _; rw [HZS.out, ← hV2, vs_size, hll2]
          obtain ⟨q, hq⟩ : ∃ q : Bool, decide (l = l2) = q := ⟨_, rfl⟩
          have heq := run_eq 65 Try.underlying65 l l2 V V2 q hV hV2 hll hll2 hq
          have HQ := Lib.hid hq
          have HYA := Lib.hid hya
          have HB5a : Hid (Blk ((W4.alloc (.cells Z 65)).setRow W4.heap.size V2) p 65 V) := Blk.put_new HB4.out
          have HB5b : Hid (Blk ((W4.alloc (.cells Z 65)).setRow W4.heap.size V2) W4.heap.size 65 V2) := new_put
          have HKn : Hid (Keeps (fun _ => False) W4 ((W4.alloc (.cells Z 65)).setRow W4.heap.size V2)) := Keeps.put_new (Keeps.refl _ _)
          clear hM2 hya ha hl hll hV hV2 hll2 hq
          go_upto_region 7 with ((with_reducible refine st_row (Blk.new _ 65 Z) HVI2.out HVZ2.out HV12.out ?_ ?_ ?_); rfl; rfl)
          obtain ⟨p2, hp2⟩ : ∃ p2, W4.heap.size = p2 := ⟨_, rfl⟩
          generalize (W4.alloc (.cells Z 65)).setRow W4.heap.size V2 = W5 at HB5a HB5b HKn ⊢
          rw [hp2] at HB5b ⊢
          have HG5 := Lib.hid (HG4.out.keeps HKn.out id id)
          have HK5 := Lib.hid (HKw4.out.trans HKn.out)
          clear hp2 hlk HB4 HG4 HKw4 HKn
          cases q with
          | true =>
            go_wp2_with (first
              | ((with_reducible refine ld_row_g HB5a.out Try.underlying65 HVI.out ?_ ?_ ?_); rfl; rfl)
              | ((with_reducible refine ld_row_g HB5b.out Try.underlying65 HVI2.out ?_ ?_ ?_); rfl; rfl))
            have HSN : Hid (∀ z ∈ seen ++ [a], x z = y z) := by
              intro z hz
              rcases List.mem_append.1 hz with hz | hz
              · exact HS.out z hz
              · rw [List.mem_singleton] at hz
                subst hz
                rw [HL.out, HYA.out, of_decide_eq_true HQ.out]
            refine ⟨⟨seen ++ [a], cn3, HG5.out, HSN.out, HK5.out⟩, ?_⟩
            exact Nat.lt_of_le_of_lt (Nat.le_of_eq HG5.out.left_eq) HLT.out
          | false =>
            obtain rfl : res = false := by
              rw [← HR.out]
              refine decide_eq_false fun h => ?_
              have := h a HA.out
              rw [HL.out, HYA.out] at this
              injection this with this
              exact of_decide_eq_false HQ.out this
            go_wp2_with (first
              | ((with_reducible refine ld_row_g HB5a.out Try.underlying65 HVI.out ?_ ?_ ?_); rfl; rfl)
              | ((with_reducible refine ld_row_g HB5b.out Try.underlying65 HVI2.out ?_ ?_ ?_); rfl; rfl))
            go_ret
            exact ⟨rfl, HK5.out⟩
  · obtain rfl : res = false := by
      rw [← HR.out]
      refine decide_eq_false fun h => hne ?_
      rw [← HN1.out, ← HN2.out]
      exact (tbB_congr (d := 256) h).2
    have hne2 : ¬ ((N1 : Int) = (N2 : Int)) := by omega
    go_wp2_with (first
      | (at_len
         refine wpList_len_f byte_ks rfl (.tmp 9) _ rfl 65 Try.underlying40 b1 N1 (tabV x) rfl H1.out (by rw [cntF_tab]; exact HN1.out) ?_)
      | (at_len
         refine wpList_len_f byte_ks rfl (.tmp 11) _ rfl 65 Try.underlying40 b2 N2 (tabV y) rfl H2.out (by rw [cntF_tab]; exact HN2.out) ?_))
    go_ret
    exact ⟨rfl, Keeps.refl _ _⟩
end Go.Proofs.Ytnanmenoemajfaa.Cq
