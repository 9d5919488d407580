/- Ways put behind what a Writer has (desc's Put): their bytes, or the error and nothing. -/
import Derived.Test.YtankkadfaokaoaaDsPut
namespace Go.Proofs.Ytankkadfaokaoaa.Ds
open Go.RowKit Go.Proofs.Ytankkadfaokaoaa.Gen Go.Proofs.Ytankkadfaokaoaa.Wr Go.Proofs.Ytankkadfaokaoaa.Ww Go.Proofs.Ytankkadfaokaoaa.It Go.Proofs.Ytankkadfaokaoaa.Iw Go.Proofs.Ytankkadfaokaoaa.Ir Go.Proofs.Ytankkadfaokaoaa.Ib Go.Proofs.Ytankkadfaokaoaa.Tw Go.Proofs.Ytankkadfaokaoaa.Hr Go.Proofs.Ytankkadfaokaoaa.Hn Go.Proofs.Ytankkadfaokaoaa.Hk Go.Proofs.Ytankkadfaokaoaa.Ln

theorem newE_zero {L : List G} (h : newE L = 0) : (1 ≤ L.length ∧ L.length ≤ 256) ∧ (∀ i, i < L.length → errAt L i = 0) ∧ posOf (nats' L) ≤ 2 ^ 20 := by
  unfold newE at h
  split at h
  · omega
  · rename_i h1
    split at h
    · rename_i i hf
      rw [List.find?_range_eq_some] at hf
      exact absurd h (by simpa using hf.1)
    · rename_i hf
      refine ⟨by omega, fun i hi => ?_, ?_⟩
      · rw [List.find?_eq_none] at hf
        have := hf i (by simpa using hi)
        simpa using this
      · split at h
        · omega
        · omega
theorem newE_in {L : List G} (h : newE L = 0) : ∀ p ∈ L, (-2147483647 ≤ p.1 ∧ p.1 ≤ 2147483647) ∧ 0 ≤ p.2 ∧ p.2 ≤ 20 := by
  intro p hp
  obtain ⟨i, hi, rfl⟩ := List.getElem_of_mem hp
  have := (newE_zero h).2.1 i hi
  unfold errAt entErr at this
  rw [List.getD_eq_getElem?_getD, List.getElem?_eq_getElem hi] at this
  simp only [Option.getD_some] at this
  split at this
  · omega
  · omega

set_option maxHeartbeats 8000000 in
set_option maxRecDepth 100000 in
theorem put_i_none (A : Option Addr) (n c : Nat) (d : D) (w : World) :
    Calls Try.prog 13 #[.agg (dv A n c d), .pointer none] w fun r w' => r = .returned (.int .i64 1) ∧ Keeps (fun _ => False) w w' := by
  obtain ⟨K, B, L, le, bi⟩ := d
  unfold dv
  simp only
  go_enter Try.func13, Try.ntmps13
  go_wp2
  go_ret
  exact ⟨rfl, (Keeps.refl _ _).alloc _⟩
set_option maxHeartbeats 8000000 in
set_option maxRecDepth 100000 in
theorem put_a_none (A : Option Addr) (n c : Nat) (a : E) (w : World) :
    Calls Try.prog 14 #[.agg (av A n c a), .pointer none] w fun r w' => r = .returned (.int .i64 1) ∧ Keeps (fun _ => False) w w' := by
  obtain ⟨⟨dK, dB, L, le, bi⟩, K, B, S⟩ := a
  unfold av
  simp only
  go_enter Try.func14, Try.ntmps14
  go_wp2
  go_ret
  exact ⟨rfl, (Keeps.refl _ _).alloc _⟩
set_option maxHeartbeats 8000000 in
set_option maxRecDepth 100000 in
theorem put_i_bad (g : Nat) (A : Option Addr) (n c : Nat) (d : D) (w : World) (hl : Ents w A n d.L) (he : chkI d ≠ 0) :
    Calls Try.prog 13 #[.agg (dv A n c d), .pointer (some ⟨g, 0, none⟩)] w fun r w' => r = .returned (.int .i64 (chkI d)) ∧ Keeps (fun _ => False) w w' := by
  have HI := Lib.hid (fun w (h : Ents w A n d.L) => check_i A n c d w h)
  have HL := Lib.hid hl
  generalize chkI d = e at *
  obtain ⟨K, B, L, le, bi⟩ := d
  unfold dv at HI ⊢
  simp only at HI HL ⊢
  have hne : (e != 0) = true := by simpa using he
  have HA := Lib.hid (HL.out.more ((Keeps.refl _ w).alloc (.cells #[.int .u8 K, .int .i64 B, .slice A n c, .int .i64 le, .int .i64 bi] 31)))
  clear he hl
  go_enter Try.func13, Try.ntmps13
  go_wp2_with (
    go_at_call 11
    refine (HI.out _ HA.out).mono ?_
    rintro e1 w' ⟨rfl, hk⟩
    have HK := Lib.hid hk
    clear hk)
  go_ret
  exact ⟨rfl, ((Keeps.refl _ _).alloc _).trans HK.out⟩
set_option maxHeartbeats 8000000 in
set_option maxRecDepth 100000 in
theorem put_a_bad (g : Nat) (A : Option Addr) (n c : Nat) (a : E) (w : World) (hl : Ents w A n a.d.L) (he : chkA a ≠ 0) :
    Calls Try.prog 14 #[.agg (av A n c a), .pointer (some ⟨g, 0, none⟩)] w fun r w' => r = .returned (.int .i64 (chkA a)) ∧ Keeps (fun _ => False) w w' := by
  have HI := Lib.hid (fun w (h : Ents w A n a.d.L) => check_a A n c a w h)
  have HL := Lib.hid hl
  generalize chkA a = e at *
  obtain ⟨⟨dK, dB, L, le, bi⟩, K, B, S⟩ := a
  unfold av at HI ⊢
  simp only at HI HL ⊢
  have hne : (e != 0) = true := by simpa using he
  have HA := Lib.hid (HL.out.more ((Keeps.refl _ w).alloc (.cells #[.int .u8 dK, .int .i64 dB, .slice A n c, .int .i64 le, .int .i64 bi, .int .u8 K, .int .i64 B, .int .u8 S] 34)))
  clear he hl
  go_enter Try.func14, Try.ntmps14
  go_wp2_with (
    go_at_call 12
    refine (HI.out _ HA.out).mono ?_
    rintro e1 w' ⟨rfl, hk⟩
    have HK := Lib.hid hk
    clear hk)
  go_ret
  exact ⟨rfl, ((Keeps.refl _ _).alloc _).trans HK.out⟩

set_option maxHeartbeats 8000000 in
set_option maxRecDepth 100000 in
theorem put_i (g base : Nat) (v : Value) (ys : List Int) (A : Option Addr) (n c : Nat) (d : D) (w : World) (h : IsWr base g v ys w) (hl : Ents w A n d.L) (hA : 0 < n → ∀ b o, A = some ⟨b, o, none⟩ → ¬ Its g v b) (hn : ys.length + 30000 ≤ 1000000) (he : chkI d = 0) :
    Calls Try.prog 13 #[.agg (dv A n c d), .pointer (some ⟨g, 0, none⟩)] w fun r w' => r = .returned (.int .i64 0) ∧ Wro base g v (ys ++ bytI d) w w' := by
  have HI := Lib.hid (fun w (h : Ents w A n d.L) => check_i A n c d w h)
  rw [he] at HI
  have HE := Lib.hid he
  have HBY : Hid (bytI d = encInt d.K ++ bodI d) := rfl
  obtain ⟨bs, hbs⟩ : ∃ bs, bs = bytI d := ⟨_, rfl⟩
  rw [← hbs] at HBY ⊢
  have HL := Lib.hid hl
  have H := Lib.hid h
  have HA := Lib.hid hA
  have HN := Lib.hid hn
  clear h hl hA hn he hbs
  obtain ⟨K, B, L, le, bi⟩ := d
  unfold dv at HI ⊢
  simp only at HI HL HBY ⊢
  have HK0 : Hid (Keeps (fun _ => False) w (w.alloc (.cells #[.int .u8 K, .int .i64 B, .slice A n c, .int .i64 le, .int .i64 bi] 31))) := (Keeps.refl _ _).alloc _
  have HD0 : Hid (Blk (w.alloc (.cells #[.int .u8 K, .int .i64 B, .slice A n c, .int .i64 le, .int .i64 bi] 31)) w.heap.size 31 #[.int .u8 K, .int .i64 B, .slice A n c, .int .i64 le, .int .i64 bi]) := Blk.new _ _ _
  have HLT : Hid (w.heap.size ≠ g) := by have := H.out.lt; show _ ≠ _; omega
  have HCK : Hid (K = 1 ∨ K = 3 ∨ K = 6) := by
    have := HE.out
    unfold chkI at this
    simp only at this
    show _ ∨ _ ∨ _
    split at this
    · omega
    · split at this
      · omega
      · split at this
        · omega
        · omega
  have HK255 : Hid (0 ≤ K ∧ K < 256) := by have := HCK.out; show _ ∧ _; omega
  have hwk : IntKind.u32.wrap K = K := IntWalk.u32_in _ (by have := HCK.out; omega)
  have h1 : K = 1 ∨ K = 3 ∨ K = 6 := HCK.out
  go_enter Try.func13, Try.ntmps13
  go_upto_region 6 with (first
      | (go_at_call 11
         refine (HI.out _ (HL.out.more HK0.out)).mono ?_
         rintro e1 w1 ⟨rfl, hk⟩
         have HK1 := Lib.hid (HK0.out.trans hk)
         have HD1 := Lib.hid (HD0.out.keeps hk id)
         have hd1 : w1.cell? ⟨w.heap.size, 0, none⟩ = some (.int .u8 K) := HD1.out.cell 0
         have HW1 := Lib.hid (Wro.still (Wro.refl H.out) HK1.out)
         clear hk HI HD0))
  go_upto_region 7 with (
         go_at_call 31
         obtain ⟨v1, hw1, hkk1, ho1⟩ := HW1.out
         refine (Iw.int g base v1 ys K _ hw1 (by have := HN.out; omega) HK255.out.1 (by have := HK255.out.2; omega)).mono ?_
         rintro e w2 hp
         obtain rfl := hp.1
         have HW2 := Lib.hid (Wro.next hkk1 ho1 hp)
         have HD2 : Hid (Blk w2 w.heap.size 31 #[.int .u8 K, .int .i64 B, .slice A n c, .int .i64 le, .int .i64 bi]) := by
           obtain ⟨_, v2, _, hk2, _⟩ := hp
           exact Lib.hid (HD1.out.keeps hk2 (far hw1 HD1.out HLT.out (by decide)))
         clear hw1 hkk1 ho1 hp hd1 HW1 HD1)
  obtain ⟨v2, hw2, hkk2, ho2⟩ := HW2.out
  have HV2 := Lib.hid hw2
  have HKK2 := Lib.hid hkk2
  have HO2 := Lib.hid ho2
  obtain ⟨y2, hy2⟩ : ∃ y2, ys ++ encInt K = y2 := ⟨_, rfl⟩
  rw [hy2] at HV2
  have HYL : Hid (y2.length + 29000 ≤ 1000000) := by show _ ≤ _; have := HN.out; have := encInt_len K; rw [← hy2, List.length_append]; omega
  have HBY2 : Hid (ys ++ bs = y2 ++ bodI ⟨K, B, L, le, bi⟩) := by show _ = _; rw [HBY.out, ← hy2, List.append_assoc]
  clear hw2 hkk2 ho2 HW2 HBY hy2
  have hd2 : w2.cell? ⟨w.heap.size, 0, none⟩ = some (.int .u8 K) := HD2.out.cell 0
  rcases h1 with rfl | rfl | rfl
  · have HB : Hid (1 ≤ B ∧ B ≤ 60000) := by
      have := HE.out
      unfold chkI blkE at this
      simp only at this
      rw [if_pos trivial] at this
      show _ ∧ _
      split at this
      · omega
      · omega
    have hwb : IntKind.u32.wrap B = B := IntWalk.u32_in _ (by have := HB.out; omega)
    have hd3 : w2.cell? ⟨w.heap.size, 1, none⟩ = some (.int .i64 B) := HD2.out.cell 1
    go_wp2_with (
         go_at_call 31
         refine (Iw.int g base v2 y2 B _ HV2.out (by have := HYL.out; omega) (by have := HB.out; omega) (by have := HB.out; omega)).mono ?_
         rintro e w3 hp
         obtain rfl := hp.1
         have HW3 := Lib.hid (Wro.next HKK2.out HO2.out hp)
         clear hp)
    go_ret
    refine ⟨rfl, ?_⟩
    rw [HBY2.out]
    exact HW3.out
  · have HZ : Hid (∀ p ∈ L, 0 ≤ p.2 ∧ p.2 < 4294967296) := by
      have := HE.out
      unfold chkI at this
      simp only at this
      rw [if_neg (by decide), if_pos trivial] at this
      refine Lib.hid fun p hp => ?_
      have := (newE_in this p hp).2
      omega
    have hd3 : w2.cell? ⟨w.heap.size, 2, none⟩ = some (.slice A n c) := HD2.out.cell 2
    have HL2 := Lib.hid (HL.out.keeps HKK2.out HA.out)
    have HA2 := Lib.hid (far_ents HL.out HA.out HO2.out)
    go_wp2_with (
         go_at_call 32
         refine (put_ents g base v2 y2 A n c L _ HV2.out HL2.out HA2.out (by have := HYL.out; omega) HZ.out).mono ?_
         rintro e w3 hp
         obtain rfl := hp.1
         have HW3 := Lib.hid (Wro.next HKK2.out HO2.out hp)
         clear hp)
    go_ret
    refine ⟨rfl, ?_⟩
    rw [HBY2.out]
    exact HW3.out
  · have HB : Hid (0 ≤ bi ∧ bi ≤ 31) := by
      have := HE.out
      unfold chkI fixE at this
      simp only at this
      rw [if_neg (by decide), if_neg (by decide), if_pos trivial] at this
      show _ ∧ _
      split at this
      · omega
      · omega
    have hwb : IntKind.u32.wrap bi = bi := IntWalk.u32_in _ (by have := HB.out; omega)
    have hd3 : w2.cell? ⟨w.heap.size, 3, none⟩ = some (.int .i64 le) := HD2.out.cell 3
    go_upto_region 14 with (
         go_at_call 33
         refine (Iw.signed g base v2 y2 le _ HV2.out (by have := HYL.out; omega)).mono ?_
         rintro e w3 hp
         obtain rfl := hp.1
         have HW3 := Lib.hid (Wro.next HKK2.out HO2.out hp)
         have HD3 : Hid (Blk w3 w.heap.size 31 #[.int .u8 6, .int .i64 B, .slice A n c, .int .i64 le, .int .i64 bi]) := by
           obtain ⟨_, v3, _, hk3, _⟩ := hp
           exact Lib.hid (HD2.out.keeps hk3 (far HV2.out HD2.out HLT.out (by decide)))
         clear hp)
    obtain ⟨v3, hw3, hkk3, ho3⟩ := HW3.out
    have HV3 := Lib.hid hw3
    have HKK3 := Lib.hid hkk3
    have HO3 := Lib.hid ho3
    clear hw3 hkk3 ho3 hd2 hd3
    have hd4 : w3.cell? ⟨w.heap.size, 4, none⟩ = some (.int .i64 bi) := HD3.out.cell 4
    go_wp2_with (
         go_at_call 31
         refine (Iw.int g base v3 _ bi _ HV3.out (by have := HYL.out; have := encInt_len (le % 4294967296); rw [List.length_append]; omega) (by have := HB.out; omega) (by have := HB.out; omega)).mono ?_
         rintro e w4 hp
         obtain rfl := hp.1
         have HW4 := Lib.hid (Wro.next HKK3.out HO3.out hp)
         clear hp)
    go_ret
    refine ⟨rfl, ?_⟩
    rw [HBY2.out]
    have := HW4.out
    rw [List.append_assoc] at this
    exact this
end Go.Proofs.Ytankkadfaokaoaa.Ds
