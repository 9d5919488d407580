/- Tables taken (chain.takeTables): whatever the bytes are. -/
import Derived.Test.YtnanmenoemajfaaChOw
import Derived.Test.YtnanmenoemajfaaFrqTake
namespace Go.Proofs.Ytnanmenoemajfaa.Cq
open Go.RowKit Go.Proofs.Ytnanmenoemajfaa.Gen Go.Proofs.Ytnanmenoemajfaa.Wr Go.Proofs.Ytnanmenoemajfaa.It Go.Proofs.Ytnanmenoemajfaa.Ir Go.Proofs.Ytnanmenoemajfaa.Ib Go.Proofs.Ytnanmenoemajfaa.Fq Go.Proofs.Ytnanmenoemajfaa.Fb Go.Proofs.Ytnanmenoemajfaa.Rp Go.Proofs.Ytnanmenoemajfaa.Ch Go.Proofs.Ytnanmenoemajfaa.Cm Go.Proofs.Ytnanmenoemajfaa.Ck

theorem byte_in {s : RS} (h : s.ok) : 0 ≤ s.byte.1 ∧ s.byte.1 < 256 := by
  unfold RS.byte
  split
  · split
    · next hk => exact h.2.2 _ (getD_mem hk)
    · simp
  · simp
theorem count_in {s : RS} (h : s.ok) {most : Int} (hm : 0 ≤ most) : 0 ≤ (RS.count s most).1 ∧ (RS.count s most).1 ≤ most := by
  have := int_in h
  unfold RS.count
  split
  · exact ⟨Int.le_refl _, hm⟩
  · next h2 => exact ⟨this.1, by omega⟩
theorem tabV_up (tb : Nat → Option (List Int)) (c : Nat) (l : List Int) : putF (tabV tb) c (.agg (vs l)) = tabV (upT tb c l) := by
  funext a
  unfold putF tabV upT
  by_cases e : a = c
  · rw [if_pos e, if_pos e]; rfl
  · rw [if_neg e, if_neg e]

set_option maxHeartbeats 8000000 in
set_option maxRecDepth 100000 in
theorem takeTables_ (g base : Nat) (s : RS) (w : World) (h : IsRd base g s w) :
    Calls Try.prog 21 #[rd g] w fun r w' => ∃ b, r = .returned (.map (some b)) ∧ IsF Try.prog 5 256 bkl w' b (tabV (takeTs s).1) ∧ IsRd base g (takeTs s).2 w' ∧ w.heap.size ≤ b ∧ Keeps (· = g) w w' := by
  have hmm := @run_makeMap Try.prog
  have H := Lib.hid h
  obtain ⟨⟨cn, s1⟩, hcn⟩ : ∃ q, RS.count s 256 = q := ⟨_, rfl⟩
  have hci := count_in h.2.1 (most := 256) (by omega)
  rw [hcn] at hci
  obtain ⟨N, rfl⟩ : ∃ N : Nat, cn = (N : Int) := ⟨cn.toNat, by omega⟩
  have hN : N ≤ 256 := by omega
  have HTS : Hid (takeTs s = tkL N (-1) (fun _ => none) s1) := by show _ = _; rw [takeTs, hcn]; simp only [Int.toNat_natCast]
  have HCN := Lib.hid (fun W (h : IsRd base g s W) => Ir.count g s base 256 W h)
  rw [hcn] at HCN
  have HN := Lib.hid hN
  clear h hcn hci hN
  unfold rd at HCN ⊢
  go_enter Try.func21, Try.ntmps21
  go_upto_region 1 with fail
  obtain ⟨B, hB⟩ : ∃ B, w.heap.size = B := ⟨_, rfl⟩
  have HB1 : Hid (Blk (w.alloc (.cells #[.pointer (some ⟨g, 0, none⟩)] 54)) w.heap.size 54 #[.pointer (some ⟨g, 0, none⟩)]) := Blk.new _ _ _
  have HK1 : Hid (Keeps (fun _ => False) w (w.alloc (.cells #[.pointer (some ⟨g, 0, none⟩)] 54))) := (Keeps.refl _ _).alloc _
  generalize w.alloc (.cells #[.pointer (some ⟨g, 0, none⟩)] 54) = W1 at HB1 HK1 ⊢
  rw [hB] at HB1 ⊢
  have HBE := Lib.hid hB
  have HGB : Hid (g < B) := by show g < B; rw [← hB]; exact H.out.lt
  clear hB
  have HM2a := Lib.hid (IsF.new Try.prog 5 256 bkl W1)
  have HKa : Hid (Keeps (fun _ => False) W1 (W1.alloc (.map #[] 0))) := (Keeps.refl _ _).alloc _
  have HBba := Lib.hid HB1.out.lt
  go_upto_region 3 with fail
  generalize W1.alloc (.map #[] 0) = W2 at HM2a HKa ⊢
  obtain ⟨b, hb⟩ : ∃ b, W1.heap.size = b := ⟨_, rfl⟩
  rw [hb] at HM2a HBba ⊢
  clear hb
  have HM2 := HM2a
  have HBb : Hid (B < b) := HBba
  have HB2 := Lib.hid (HB1.out.keeps HKa.out id)
  have HK2 := Lib.hid (HK1.out.trans HKa.out)
  have HR2 := Lib.hid (H.out.keeps HK2.out (fun _ _ h => h))
  have hb2 : W2.cell? ⟨B, 0, none⟩ = some (.pointer (some ⟨g, 0, none⟩)) := HB2.out.cell 0
  clear HM2a HBba HB1 HKa HK1 H
  go_upto_region 4 with (
    go_at_call 19
    refine (HCN.out _ HR2.out).mono ?_
    rintro e w3 ⟨rfl, hr3, hk3⟩
    have HR3 := Lib.hid hr3
    have HM3 := Lib.hid (HM2.out.keeps hk3 (fun e => by have := HGB.out; have := HBb.out; omega))
    have HB3 := Lib.hid (HB2.out.keeps hk3 (fun e => by have := HGB.out; omega))
    have HK3 : Hid (Keeps (· = g) w w3) := Lib.hid (HK2.out.none_.trans hk3)
    clear hr3 hk3 hb2)
  clear HCN HM2 HB2 HR2 HK2
  go_loopw [4, 5, 9] (fun lv _ iv wr => ∃ (i : Nat) (last : Int) (tb : Nat → Option (List Int)) (s2 : RS), iv = .int .i64 (i : Int) ∧ lv = .int .i64 last ∧ i ≤ N ∧ Hid (tkL (N - i) last tb s2 = takeTs s ∧ -1 ≤ last ∧ last ≤ 255 ∧ IsF Try.prog 5 256 bkl wr b (tabV tb) ∧ IsRd base g s2 wr ∧ Blk wr B 54 #[.pointer (some ⟨g, 0, none⟩)] ∧ Keeps (· = g) w wr)) (fun _ _ iv _ => N - (intOf iv).toNat)
  case atStart =>
    refine ⟨0, -1, fun _ => none, s1, rfl, rfl, by omega, Lib.hid ⟨by rw [Nat.sub_zero, HTS.out], by omega, by omega, ?_, HR3.out, HB3.out, HK3.out⟩⟩
    have : tabV (fun _ => none) = fun _ => none := by funext a; rfl
    rw [this]
    exact HM3.out
  case round =>
    clear HR3 HM3 HB3 HK3
    obtain ⟨i, last, tb, s2, rfl, rfl, hi, HH⟩ := hrel
    by_cases hlt : i < N
    · have hi1 : (i : Int) < (N : Int) := by omega
      have hb0 : wr.cell? ⟨B, 0, none⟩ = some (.pointer (some ⟨g, 0, none⟩)) := HH.out.2.2.2.2.2.1.cell 0
      have hbi := byte_in HH.out.2.2.2.2.1.2.1
      obtain ⟨⟨cb, s3⟩, hsb⟩ : ∃ q, s2.byte = q := ⟨_, rfl⟩
      rw [hsb] at hbi
      obtain ⟨c, rfl⟩ : ∃ c : Nat, cb = (c : Int) := ⟨cb.toNat, by omega⟩
      have hcb : c < 256 := by omega
      have HBY := Lib.hid (Wr.byte g s2 base wr HH.out.2.2.2.2.1)
      rw [hsb] at HBY
      obtain ⟨s4, hs4⟩ : ∃ s4, (if (c : Int) ≤ last then s3.fail 21 else s3) = s4 := ⟨_, rfl⟩
      obtain ⟨⟨l, s5⟩, hl⟩ : ∃ q, takeT s4 = q := ⟨_, rfl⟩
      have hnx : tkL (N - i) last tb s2 = tkL (N - (i + 1)) (c : Int) (upT tb c l) s5 := by
        rw [show N - i = (N - (i + 1)) + 1 by omega, tkL, hsb]
        simp only
        rw [hs4, hl, Int.toNat_natCast]
      have HNX : Hid (tkL (N - (i + 1)) (c : Int) (upT tb c l) s5 = takeTs s) := by show _ = _; rw [← hnx]; exact HH.out.1
      have HFT := Lib.hid (fun W (h : IsRd base g s4 W) => Fb.take g s4 base W h)
      unfold TakeAns at HFT
      rw [hl] at HFT
      unfold rd at HFT
      obtain ⟨V, hV⟩ : ∃ V, vs l = V := ⟨_, rfl⟩
      have HUP : Hid (putF (tabV tb) c (.agg V) = tabV (upT tb c l)) := by show _ = _; rw [← hV, tabV_up]
      simp only [hV] at HFT
      have hwc : IntKind.i64.wrap (c : Int) = (c : Int) := IntWalk.i64_in _ (by omega)
      have hwi : IntKind.i64.wrap ((i : Int) + 1) = (i : Int) + 1 := IntWalk.i64_in _ (by have := HN.out; omega)
      have HC := Lib.hid hcb
      have HI := Lib.hid hlt
      have HS4 := Lib.hid hs4
      clear hbi hsb hl hnx hV hcb hlt hi hs4
      go_upto_region 6 with (
        go_at_call 46
        refine HBY.out.mono ?_
        rintro e w4 ⟨rfl, hr4, hk4⟩
        have HR4 := Lib.hid hr4
        have HB4 := Lib.hid (HH.out.2.2.2.2.2.1.keeps hk4 (fun e => by have := HGB.out; omega))
        have HM4 := Lib.hid (HH.out.2.2.2.1.keeps hk4 (fun e => by have := HGB.out; have := HBb.out; omega))
        have HK4 := Lib.hid (HH.out.2.2.2.2.2.2.trans hk4)
        have hb4 : w4.cell? ⟨B, 0, none⟩ = some (.pointer (some ⟨g, 0, none⟩)) := HB4.out.cell 0
        clear hr4 hk4 hb0 HBY)
      have HEND : Hid (∀ w6, IsRd base g s4 w6 → Blk w6 B 54 #[.pointer (some ⟨g, 0, none⟩)] → IsF Try.prog 5 256 bkl w6 b (tabV tb) → Keeps (· = g) w w6 → True) := Lib.hid fun _ _ _ _ _ => trivial
      clear HEND
      by_cases hle : (c : Int) ≤ last
      · have h4 : s4 = s3.fail 21 := by rw [← HS4.out, if_pos hle]
        have HFL := Lib.hid (Wr.fail g s3 base 21 w4 HR4.out)
        rw [← h4] at HFL
        clear h4
        go_wp2_with (first
          | (go_at_call 43
             refine HFL.out.mono ?_
             rintro e w5 ⟨rfl, hr5, hk5⟩
             have HR5 := Lib.hid hr5
             have HB5 := Lib.hid (HB4.out.keeps hk5 (fun e => by have := HGB.out; omega))
             have HM5 := Lib.hid (HM4.out.keeps hk5 (fun e => by have := HGB.out; have := HBb.out; omega))
             have HK5 := Lib.hid (HK4.out.trans hk5)
             have hb5 : w5.cell? ⟨B, 0, none⟩ = some (.pointer (some ⟨g, 0, none⟩)) := HB5.out.cell 0
             clear hr5 hk5 hb4 HFL)
          | (go_at_call 47
             refine (HFT.out _ HR5.out).mono ?_
             rintro e w6 ⟨rfl, hr6, hk6⟩
             have HR6 := Lib.hid hr6
             have HB6 := Lib.hid (HB5.out.keeps hk6 (fun e => by have := HGB.out; omega))
             have HM6 := Lib.hid (HM5.out.keeps hk6 (fun e => by have := HGB.out; have := HBb.out; omega))
             have HK6 := Lib.hid (HK5.out.trans hk6)
             clear hr6 hk6 hb5)
          | (at_mapUpdate
             refine wpList_update_f _ byte_ks rfl (.tmp 21) (.tmp 22) (.tmp 24) _ rfl 65 Try.underlying40 b (tabV tb) rfl HM6.out (by omega) c HC.out (.agg V) rfl rfl ?_
             intro w7 hf7 hk7
             rw [HUP.out] at hf7
             have HM7 := Lib.hid hf7
             have HR7 := Lib.hid (HR6.out.low hk7 (fun x _ hx e => by have := HGB.out; have := HBb.out; omega))
             have HB7 := Lib.hid (HB6.out.keeps hk7 (fun e => by have := HBb.out; omega))
             have HK7 : Hid (Keeps (· = g) w w7) := Lib.hid ⟨hk7.os.trans HK6.out.os, hk7.tape.trans HK6.out.tape, hk7.output.trans HK6.out.output, Nat.le_trans HK6.out.size hk7.size, fun x hx hn => (hk7.block x (Nat.lt_of_lt_of_le hx HK6.out.size) (fun e => by have := HBE.out; have := HBb.out; omega)).trans (HK6.out.block x hx hn)⟩
             clear hf7 hk7))
        exact ⟨⟨i + 1, (c : Int), upT tb c l, s5, by go_num, rfl, HI.out, Lib.hid ⟨HNX.out, by omega, by have := HC.out; omega, HM7.out, HR7.out, HB7.out, HK7.out⟩⟩, by have := HI.out; simp [intOf]; omega⟩
      · have h4 : s4 = s3 := by rw [← HS4.out, if_neg hle]
        subst h4
        go_wp2_with (first
          | (go_at_call 47
             refine (HFT.out _ HR4.out).mono ?_
             rintro e w6 ⟨rfl, hr6, hk6⟩
             have HR6 := Lib.hid hr6
             have HB6 := Lib.hid (HB4.out.keeps hk6 (fun e => by have := HGB.out; omega))
             have HM6 := Lib.hid (HM4.out.keeps hk6 (fun e => by have := HGB.out; have := HBb.out; omega))
             have HK6 := Lib.hid (HK4.out.trans hk6)
             clear hr6 hk6 hb4)
          | (at_mapUpdate
             refine wpList_update_f _ byte_ks rfl (.tmp 21) (.tmp 22) (.tmp 24) _ rfl 65 Try.underlying40 b (tabV tb) rfl HM6.out (by omega) c HC.out (.agg V) rfl rfl ?_
             intro w7 hf7 hk7
             rw [HUP.out] at hf7
             have HM7 := Lib.hid hf7
             have HR7 := Lib.hid (HR6.out.low hk7 (fun x _ hx e => by have := HGB.out; have := HBb.out; omega))
             have HB7 := Lib.hid (HB6.out.keeps hk7 (fun e => by have := HBb.out; omega))
             have HK7 : Hid (Keeps (· = g) w w7) := Lib.hid ⟨hk7.os.trans HK6.out.os, hk7.tape.trans HK6.out.tape, hk7.output.trans HK6.out.output, Nat.le_trans HK6.out.size hk7.size, fun x hx hn => (hk7.block x (Nat.lt_of_lt_of_le hx HK6.out.size) (fun e => by have := HBE.out; have := HBb.out; omega)).trans (HK6.out.block x hx hn)⟩
             clear hf7 hk7))
        exact ⟨⟨i + 1, (c : Int), upT tb c l, s5, by go_num, rfl, HI.out, Lib.hid ⟨HNX.out, by omega, by have := HC.out; omega, HM7.out, HR7.out, HB7.out, HK7.out⟩⟩, by have := HI.out; simp [intOf]; omega⟩
    · obtain rfl : i = N := by omega
      have hge : ¬ ((i : Int) < (i : Int)) := by omega
      have hts := HH.out.1
      rw [Nat.sub_self, tkL] at hts
      have HF : Hid (IsF Try.prog 5 256 bkl wr b (tabV (takeTs s).1) ∧ IsRd base g (takeTs s).2 wr ∧ Keeps (· = g) w wr) := by
        refine Lib.hid ?_
        rw [← hts]
        exact ⟨HH.out.2.2.2.1, HH.out.2.2.2.2.1, HH.out.2.2.2.2.2.2⟩
      clear hts HH hlt hi
      go_wp2_with fail
      go_ret
      exact ⟨b, rfl, HF.out.1, HF.out.2.1, by have := HBE.out; have := HBb.out; omega, HF.out.2.2⟩
end Go.Proofs.Ytnanmenoemajfaa.Cq
