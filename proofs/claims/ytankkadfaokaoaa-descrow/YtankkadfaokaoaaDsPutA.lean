/- Ways of bytes put behind what a Writer has (desc's Arrays.Put). -/
import Derived.Test.YtankkadfaokaoaaDsPutI
namespace Go.Proofs.Ytankkadfaokaoaa.Ds
open Go.RowKit Go.Proofs.Ytankkadfaokaoaa.Gen Go.Proofs.Ytankkadfaokaoaa.Wr Go.Proofs.Ytankkadfaokaoaa.Ww Go.Proofs.Ytankkadfaokaoaa.It Go.Proofs.Ytankkadfaokaoaa.Iw Go.Proofs.Ytankkadfaokaoaa.Ir Go.Proofs.Ytankkadfaokaoaa.Ib Go.Proofs.Ytankkadfaokaoaa.Tw Go.Proofs.Ytankkadfaokaoaa.Hr Go.Proofs.Ytankkadfaokaoaa.Hn Go.Proofs.Ytankkadfaokaoaa.Hk Go.Proofs.Ytankkadfaokaoaa.Ln

theorem chkA_ok {a : E} (h : chkA a = 0) : (1 ≤ a.B ∧ a.B ≤ 60000) ∧ (a.K = 5 ∨ (a.K = 4 ∧ chkI a.d = 0)) := by
  unfold chkA at h
  split at h
  · omega
  · rename_i h1
    have hb : 1 ≤ a.B ∧ a.B ≤ 60000 := by
      unfold blkE at h1
      split at h1
      · omega
      · omega
    refine ⟨hb, ?_⟩
    split at h
    · rename_i h4
      exact .inr ⟨h4, h⟩
    · split at h
      · rename_i h5
        exact .inl h5
      · omega

set_option maxHeartbeats 8000000 in
set_option maxRecDepth 100000 in
theorem put_a (g base : Nat) (v : Value) (ys : List Int) (A : Option Addr) (n c : Nat) (a : E) (w : World) (h : IsWr base g v ys w) (hl : Ents w A n a.d.L) (hA : 0 < n → ∀ b o, A = some ⟨b, o, none⟩ → ¬ Its g v b) (hn : ys.length + 40000 ≤ 1000000) (he : chkA a = 0) :
    Calls Try.prog 14 #[.agg (av A n c a), .pointer (some ⟨g, 0, none⟩)] w fun r w' => r = .returned (.int .i64 0) ∧ Wro base g v (ys ++ bytA a) w w' := by
  have HI := Lib.hid (fun w (h : Ents w A n a.d.L) => check_a A n c a w h)
  rw [he] at HI
  have HE := Lib.hid (chkA_ok he)
  have HBY : Hid (bytA a = encInt a.K ++ (encInt a.B ++ if a.K = 5 then [a.S] else bytI a.d)) := rfl
  obtain ⟨bs, hbs⟩ : ∃ bs, bs = bytA a := ⟨_, rfl⟩
  rw [← hbs] at HBY ⊢
  have HL := Lib.hid hl
  have H := Lib.hid h
  have HA := Lib.hid hA
  have HN := Lib.hid hn
  have HPI := Lib.hid (fun v1 y1 w1 (h1 : IsWr base g v1 y1 w1) (h2 : Ents w1 A n a.d.L) h3 h4 h5 => put_i g base v1 y1 A n c a.d w1 h1 h2 h3 h4 h5)
  clear h hl hA hn he hbs
  obtain ⟨⟨dK, dB, L, le, bi⟩, K, B, S⟩ := a
  unfold av at HI ⊢
  unfold dv at HPI
  simp only at HI HL HBY HE HPI ⊢
  obtain ⟨by0, hby0⟩ : ∃ by0, bytI ⟨dK, dB, L, le, bi⟩ = by0 := ⟨_, rfl⟩
  rw [hby0] at HBY HPI
  clear hby0
  have HK0 : Hid (Keeps (fun _ => False) w (w.alloc (.cells #[.int .u8 dK, .int .i64 dB, .slice A n c, .int .i64 le, .int .i64 bi, .int .u8 K, .int .i64 B, .int .u8 S] 34))) := (Keeps.refl _ _).alloc _
  have HD0 : Hid (Blk (w.alloc (.cells #[.int .u8 dK, .int .i64 dB, .slice A n c, .int .i64 le, .int .i64 bi, .int .u8 K, .int .i64 B, .int .u8 S] 34)) w.heap.size 34 #[.int .u8 dK, .int .i64 dB, .slice A n c, .int .i64 le, .int .i64 bi, .int .u8 K, .int .i64 B, .int .u8 S]) := Blk.new _ _ _
  have HLT : Hid (w.heap.size ≠ g) := by have := H.out.lt; show _ ≠ _; omega
  have HK255 : Hid (0 ≤ K ∧ K < 256) := by have := HE.out.2; show _ ∧ _; omega
  have hwk : IntKind.u32.wrap K = K := IntWalk.u32_in _ (by have := HK255.out; omega)
  have hwb : IntKind.u32.wrap B = B := IntWalk.u32_in _ (by have := HE.out.1; omega)
  go_enter Try.func14, Try.ntmps14
  go_upto_region 6 with (first
      | (go_at_call 12
         refine (HI.out _ (HL.out.more HK0.out)).mono ?_
         rintro e1 w1 ⟨rfl, hk⟩
         have HK1 := Lib.hid (HK0.out.trans hk)
         have HD1 := Lib.hid (HD0.out.keeps hk id)
         have hd1 : w1.cell? ⟨w.heap.size, 5, none⟩ = some (.int .u8 K) := HD1.out.cell 5
         have HW1 := Lib.hid (Wro.still (Wro.refl H.out) HK1.out)
         clear hk HI HD0))
  go_upto_region 7 with (
         go_at_call 31
         obtain ⟨v1, hw1, hkk1, ho1⟩ := HW1.out
         refine (Iw.int g base v1 ys K _ hw1 (by have := HN.out; omega) HK255.out.1 (by have := HK255.out.2; omega)).mono ?_
         rintro e w2 hp
         obtain rfl := hp.1
         have HW2 := Lib.hid (Wro.next hkk1 ho1 hp)
         have HD2 : Hid (Blk w2 w.heap.size 34 #[.int .u8 dK, .int .i64 dB, .slice A n c, .int .i64 le, .int .i64 bi, .int .u8 K, .int .i64 B, .int .u8 S]) := by
           obtain ⟨_, v2, _, hk2, _⟩ := hp
           exact Lib.hid (HD1.out.keeps hk2 (far hw1 HD1.out HLT.out (by decide)))
         clear hw1 hkk1 ho1 hp hd1 HW1 HD1)
  have hd2 : w2.cell? ⟨w.heap.size, 6, none⟩ = some (.int .i64 B) := HD2.out.cell 6
  go_upto_region 8 with (
         go_at_call 31
         obtain ⟨v2, hw2, hkk2, ho2⟩ := HW2.out
         refine (Iw.int g base v2 _ B _ hw2 (by have := HN.out; have := encInt_len K; rw [List.length_append]; omega) (by have := HE.out.1; omega) (by have := HE.out.1; omega)).mono ?_
         rintro e w3 hp
         obtain rfl := hp.1
         have HW3 := Lib.hid (Wro.next hkk2 ho2 hp)
         have HD3 : Hid (Blk w3 w.heap.size 34 #[.int .u8 dK, .int .i64 dB, .slice A n c, .int .i64 le, .int .i64 bi, .int .u8 K, .int .i64 B, .int .u8 S]) := by
           obtain ⟨_, v3, _, hk3, _⟩ := hp
           exact Lib.hid (HD2.out.keeps hk3 (far hw2 HD2.out HLT.out (by decide)))
         clear hw2 hkk2 ho2 hp hd2 HW2 HD2)
  have HYE : Hid (ys ++ bs = ys ++ encInt K ++ encInt B ++ if K = 5 then [S] else by0) := by show _ = _; rw [HBY.out]; simp only [List.append_assoc]
  obtain ⟨v3, hw3, hkk3, ho3⟩ := HW3.out
  have HV3 := Lib.hid hw3
  have HKK3 := Lib.hid hkk3
  have HO3 := Lib.hid ho3
  have HYL : Hid ((ys ++ encInt K ++ encInt B).length + 35000 ≤ 1000000) := by
    show _ ≤ _
    have h1 := encInt_len K
    have h2 := encInt_len B
    have h3 := HN.out
    simp only [List.length_append]
    omega
  generalize ys ++ encInt K ++ encInt B = y3 at HV3 HYL HYE
  clear hw3 hkk3 ho3 HW3 HBY
  have hd3 : w3.cell? ⟨w.heap.size, 5, none⟩ = some (.int .u8 K) := HD3.out.cell 5
  by_cases h5 : K = 5
  · subst h5
    have hd4 : w3.cell? ⟨w.heap.size, 7, none⟩ = some (.int .u8 S) := HD3.out.cell 7
    go_upto_region 9 with fail
    go_region_held3 (fun w' => w'.cell? ⟨w.heap.size, 7, none⟩ = some (.int .u8 S)) (go_keep)
      ((go_at_call 34
        refine (Ww.byte g base v3 y3 S _ (HV3.out.keeps (S := fun _ => False) ((Keeps.refl _ w3).drewN 1) (fun _ _ => id)) (by have := HYL.out; omega)).mono ?_
        rintro e w4 hp
        obtain rfl := hp.1
        have HW4 := Lib.hid (Wro.next (HKK3.out.drewN 1) HO3.out hp)
        have hd9 : w4.cell? ⟨w.heap.size, 7, none⟩ = some (.int .u8 S) := by
          obtain ⟨_, v4, _, hk4, _⟩ := hp
          exact (HD3.out.keeps hk4.of_drew (far HV3.out HD3.out HLT.out (by decide))).cell 7
        clear hp))
    go_wp2
    go_ret
    refine ⟨rfl, ?_⟩
    rw [HYE.out, if_pos trivial]
    exact HW4.out
  · have hn5 : (K == 5) = false := by simpa using h5
    have h4 : chkI ⟨dK, dB, L, le, bi⟩ = 0 := by
      rcases HE.out.2 with h | h
      · exact absurd h h5
      · exact h.2
    have HC4 := Lib.hid h4
    have hd40 : w3.cell? ⟨w.heap.size, 0, none⟩ = some (.int .u8 dK) := HD3.out.cell 0
    have hd41 : w3.cell? ⟨w.heap.size, 1, none⟩ = some (.int .i64 dB) := HD3.out.cell 1
    have hd42 : w3.cell? ⟨w.heap.size, 2, none⟩ = some (.slice A n c) := HD3.out.cell 2
    have hd43 : w3.cell? ⟨w.heap.size, 3, none⟩ = some (.int .i64 le) := HD3.out.cell 3
    have hd44 : w3.cell? ⟨w.heap.size, 4, none⟩ = some (.int .i64 bi) := HD3.out.cell 4
    have HL3 := Lib.hid (HL.out.keeps HKK3.out HA.out)
    have HA3 := Lib.hid (far_ents HL.out HA.out HO3.out)
    clear h4
    go_wp2_with (
        go_at_call 13
        refine (HPI.out v3 y3 _ HV3.out HL3.out HA3.out (by have := HYL.out; omega) HC4.out).mono ?_
        rintro e w4 ⟨rfl, hw4⟩
        have HW4 := Lib.hid (Wro.next HKK3.out HO3.out hw4.puts)
        clear hw4)
    go_ret
    refine ⟨rfl, ?_⟩
    rw [HYE.out, if_neg h5]
    exact HW4.out
end Go.Proofs.Ytankkadfaokaoaa.Ds
