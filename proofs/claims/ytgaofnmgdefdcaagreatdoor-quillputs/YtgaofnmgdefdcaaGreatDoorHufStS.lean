/- slices.SortStableFunc of entries by their sizes: sizes rise, those of one size are as they were. The comparison's contract is a condition. -/
import Derived.Test.YtgaofnmgdefdcaaGreatDoorHufStG
namespace Go.Proofs.YtgaofnmgdefdcaaGreatDoor.Ss
open Go.RowKit Go.Shelf Go.Sort Go.Proofs.YtgaofnmgdefdcaaGreatDoor.Gen Go.Proofs.YtgaofnmgdefdcaaGreatDoor.Hr Go.Proofs.YtgaofnmgdefdcaaGreatDoor.Hz Go.Proofs.YtgaofnmgdefdcaaGreatDoor.St

set_option maxHeartbeats 4000000 in
set_option maxRecDepth 100000 in
theorem stable_ (HC : CmpS) (g n c : Nat) (L : List E) (T : List Value) (w : World) (h : Row w g L T) (hn : L.length = n) (hs : n ≤ 100000) :
    Calls Tryz.prog 119 #[.slice (some ⟨g, 0, none⟩) n c, .int .i64 (n : Int), .func (.func 102) #[] #[]] w fun r w' => r = .returned (.tuple #[]) ∧ Keeps (· = g) w w' ∧ ∃ Z, Rise Z ∧ Fl L Z ∧ Z.length = n ∧ Row w' g Z T := by
  have HCC : Hid CmpS := HC
  have HR := Lib.hid h
  have HN := Lib.hid hn
  clear HC h hn
  go_enter Tryz.func119, Tryz.ntmps119
  go_wp2
  go_loopw [7, 8] (fun av bv wr => ∃ (a : Nat) (D : List E), av = .int .i64 (a : Int) ∧ bv = .int .i64 ((a + 20 : Nat) : Int) ∧ a ≤ n ∧ Full 20 D ∧ D.length = a ∧ Fl (L.take a) D ∧ Row wr g (D ++ L.drop a) T ∧ Keeps (· = g) w wr) (fun av _ _ => n - (intOf av).toNat)
  case atStart => exact ⟨0, [], rfl, rfl, by omega, Full.nil _, rfl, by simpa using Fl.refl _, by simpa using HR.out, Keeps.refl _ _⟩
  case round =>
    clear HR
    obtain ⟨a, D, rfl, rfl, han, hfull, hDl, hfl, hrow, hk⟩ := hrel
    have HFU := Lib.hid hfull
    have HDL := Lib.hid hDl
    have HFL := Lib.hid hfl
    have HRW := Lib.hid hrow
    have HK := Lib.hid hk
    clear hfull hDl hfl hrow hk
    obtain ⟨b, hb⟩ : ∃ b, b = a + 20 := ⟨_, rfl⟩
    rw [← hb]
    have HB := Lib.hid hb
    have hb2 : b ≤ n + 20 := by omega
    clear hb
    by_cases hle : b ≤ n
    · obtain ⟨X, Q, hXQ, hX⟩ : ∃ X Q, X ++ Q = L.drop a ∧ X.length = 20 := ⟨_, _, List.take_append_drop 20 (L.drop a), by rw [List.length_take, List.length_drop]; have := HN.out; have := HB.out; omega⟩
      have HRO := Lib.hid (insertion_ HCC.out g n c a b D X Q T wr (by have h1 := HRW.out; rw [← hXQ] at h1; simpa using h1) (by have h1 := congrArg List.length hXQ; rw [List.length_drop, List.length_append] at h1; have := HN.out; have := HDL.out; have := HB.out; simp; omega) hs HDL.out (by have := HB.out; omega))
      have HXQ := Lib.hid hXQ
      have HX := Lib.hid hX
      clear hXQ hX
      go_wp2_with (
        refine HRO.out.mono ?_
        rintro e w1 ⟨rfl, hk1, Z, z1, z2, z3, z4⟩
        have HK1 := Lib.hid (HK.out.trans hk1)
        have HZ1 := Lib.hid z1
        have HZ2 := Lib.hid z2
        have HZ3 := Lib.hid z3
        have HZ4 := Lib.hid z4
        clear hk1 z1 z2 z3 z4)
      have hXd : (L.drop a).take 20 = X ∧ (L.drop a).drop 20 = Q := by
        rw [← HXQ.out]
        constructor
        · rw [List.take_append_of_le_length (by have := HX.out; omega), List.take_of_length_le (by have := HX.out; omega)]
        · rw [List.drop_append_of_le_length (by have := HX.out; omega), List.drop_of_length_le (by have := HX.out; omega), List.nil_append]
      refine ⟨⟨b, D ++ Z, rfl, by have := HB.out; go_num, hle, HFU.out.snoc (by rw [HZ3.out, HX.out]) HZ1.out, by rw [List.length_append, HZ3.out, HX.out, HDL.out, HB.out], ?_, ?_, HK1.out⟩, by have := HB.out; simp [intOf]; omega⟩
      · rw [HB.out, List.take_add, hXd.1]
        exact HFL.out.app HZ2.out
      · rw [HB.out, ← List.drop_drop, hXd.2]
        exact HZ4.out
    · have hnl : L.length = n := HN.out
      have HRO := Lib.hid (insertion_ HCC.out g n c a n D (L.drop a) [] T wr (by have h1 := HRW.out; simpa using h1) (by have := HDL.out; simp; omega) hs HDL.out (by rw [List.length_drop]; omega))
      clear hnl
      go_wp2_with (
        refine HRO.out.mono ?_
        rintro e w1 ⟨rfl, hk1, Z, z1, z2, z3, z4⟩
        have HK1 := Lib.hid (HK.out.trans hk1)
        have HC0 : Hid (Ch 20 (D ++ Z)) := HFU.out.end_ (by rw [z3, List.length_drop]; have := HN.out; have := HB.out; omega) z1
        have HF0 : Hid (Fl L (D ++ Z)) := by
          have h1 := HFL.out.app z2
          rw [List.take_append_drop] at h1
          exact h1
        have HL0 : Hid ((D ++ Z).length = n) := by show _ = _; rw [List.length_append, z3, List.length_drop, HDL.out]; have := HN.out; omega
        have HR0 : Hid (Row w1 g (D ++ Z) T) := by show Row _ _ _ _; simpa using z4
        clear hk1 z1 z2 z3 z4)
      clear HRO HK HRW HFU HFL
      go_loopw [6] (fun sv wr => ∃ (s : Nat) (L1 : List E), sv = .int .i64 (s : Int) ∧ 20 ≤ s ∧ s ≤ 2 * n + 20 ∧ Ch s L1 ∧ Fl L L1 ∧ L1.length = n ∧ Row wr g L1 T ∧ Keeps (· = g) w wr) (fun sv _ => 2 * n + 20 - (intOf sv).toNat)
      case atStart => exact ⟨20, D ++ Z, rfl, by omega, by omega, HC0.out, HF0.out, HL0.out, HR0.out, HK1.out⟩
      case round =>
        clear HC0 HF0 HL0 HR0 HK1
        obtain ⟨s, L1, rfl, hs20, hs2, hch, hfl, hl1, hrow, hk⟩ := hrel
        have HCH := Lib.hid hch
        have HFL := Lib.hid hfl
        have HL1 := Lib.hid hl1
        have HRW := Lib.hid hrow
        have HK := Lib.hid hk
        clear hch hfl hl1 hrow hk
        by_cases hlt : s < n
        · go_wp2
          go_loopw [7, 8] (fun av bv wx => ∃ (a1 : Nat) (D1 R1 : List E), av = .int .i64 (a1 : Int) ∧ bv = .int .i64 ((a1 + 2 * s : Nat) : Int) ∧ a1 ≤ n ∧ Full (2 * s) D1 ∧ D1.length = a1 ∧ Ch s R1 ∧ a1 + R1.length = n ∧ Fl L (D1 ++ R1) ∧ Row wx g (D1 ++ R1) T ∧ Keeps (· = g) w wx) (fun av _ _ => n - (intOf av).toNat)
          case atStart => exact ⟨0, [], L1, rfl, by go_num, by omega, Full.nil _, rfl, HCH.out, by have := HL1.out; omega, HFL.out, HRW.out, HK.out⟩
          case round =>
            clear HCH HFL HRW HK
            obtain ⟨a1, D1, R1, rfl, rfl, ha1, hfu, hd1, hch, hr1, hfl, hrow, hk⟩ := hrel
            have HFU := Lib.hid hfu
            have HD1 := Lib.hid hd1
            have HCH := Lib.hid hch
            have HR1 := Lib.hid hr1
            have HFL := Lib.hid hfl
            have HRW := Lib.hid hrow
            have HK := Lib.hid hk
            clear hfu hd1 hch hr1 hfl hrow hk
            obtain ⟨b1, hb1⟩ : ∃ b1, b1 = a1 + 2 * s := ⟨_, rfl⟩
            rw [← hb1]
            have HB1 := Lib.hid hb1
            have hb2 : b1 ≤ n + 2 * n := by omega
            obtain ⟨m1, hm1⟩ : ∃ m1, m1 = a1 + s := ⟨_, rfl⟩
            have hmi : (a1 : Int) + (s : Int) = (m1 : Int) := by omega
            have hm2 : m1 ≤ n + n := by omega
            have HM1 := Lib.hid hm1
            have hwm : IntKind.i64.wrap (m1 : Int) = (m1 : Int) := by rw [IntKind.wrap_i64]; omega
            clear hb1 hm1
            by_cases hle : b1 ≤ n
            · obtain ⟨Y1, Y2, R2, hR, hy1, hy2, hy3, hy4, hc2⟩ := HCH.out.two (by have := HR1.out; have := HB1.out; omega)
              have HRO := Lib.hid (symMerge_ HCC.out g n c T hs _ a1 m1 b1 D1 Y1 Y2 R2 wr rfl (by have h1 := HRW.out; rw [hR] at h1; simpa using h1) (by have h1 := congrArg List.length hR; have := HR1.out; have := HD1.out; simp at h1 ⊢; omega) HD1.out (by have := HM1.out; omega) (by have := HM1.out; have := HB1.out; omega) (by omega) (by omega) hy2 hy4)
              have HRR := Lib.hid hR
              have HY1 := Lib.hid hy1
              have HY3 := Lib.hid hy3
              have HC2 := Lib.hid hc2
              clear hR hy1 hy2 hy3 hy4 hc2
              go_wp2_with (
                refine HRO.out.mono ?_
                rintro e w1 ⟨rfl, hk1, Z2, z1, z2, z3, z4⟩
                have HK1 := Lib.hid (HK.out.trans hk1)
                have HZ1 := Lib.hid z1
                have HZ2 := Lib.hid z2
                have HZ3 := Lib.hid z3
                have HZ4 := Lib.hid z4
                clear hk1 z1 z2 z3 z4)
              refine ⟨⟨b1, D1 ++ Z2, R2, rfl, by have := HB1.out; go_num, hle, HFU.out.snoc (by rw [HZ3.out, List.length_append]; have := HY1.out; have := HY3.out; omega) HZ1.out, by rw [List.length_append, HZ3.out, List.length_append]; have := HY1.out; have := HY3.out; have := HD1.out; have := HB1.out; omega, HC2.out, ?_, ?_, HZ4.out, HK1.out⟩, by have := HB1.out; simp [intOf]; omega⟩
              · have h1 := congrArg List.length HRR.out
                have := HR1.out
                have := HY1.out
                have := HY3.out
                have := HB1.out
                simp at h1
                omega
              · have h1 := HFL.out
                rw [HRR.out] at h1
                refine h1.trans ?_
                have h2 := (Fl.refl D1).app (HZ2.out.app (Fl.refl R2))
                simpa using h2
            · have HEND : Hid (∀ (Z3 : List E) (W : World), Rise Z3 → Fl R1 Z3 → Z3.length = R1.length → Row W g (D1 ++ Z3) T → Keeps (· = g) w W → ∃ (s_1 : Nat) (L1 : List E), ((s : Int) * 2 = (s_1 : Int)) ∧ 20 ≤ s_1 ∧ s_1 ≤ 2 * n + 20 ∧ Ch s_1 L1 ∧ Fl L L1 ∧ L1.length = n ∧ Row W g L1 T ∧ Keeps (· = g) w W) := by
                intro Z3 W g1 g2 g3 g4 g5
                refine ⟨2 * s, D1 ++ Z3, by omega, by omega, by omega, HFU.out.end_ (by rw [g3]; have := HR1.out; have := HB1.out; omega) g1, HFL.out.trans ((Fl.refl D1).app g2), by rw [List.length_append, g3, HD1.out]; exact HR1.out, g4, g5⟩
              by_cases hmn : m1 < n
              · obtain ⟨Y1, Y2, hR, hy1, hy2, hy3⟩ := HCH.out.one (by have := HR1.out; have := HB1.out; omega) (by have := HR1.out; have := HM1.out; omega)
                have HRO := Lib.hid (symMerge_ HCC.out g n c T hs _ a1 m1 n D1 Y1 Y2 [] wr rfl (by have h1 := HRW.out; rw [hR] at h1; simpa using h1) (by have h1 := congrArg List.length hR; have := HR1.out; have := HD1.out; simp at h1 ⊢; omega) HD1.out (by have := HM1.out; omega) (by have h1 := congrArg List.length hR; have := HR1.out; have := HM1.out; simp at h1; omega) (by omega) (by have h1 := congrArg List.length hR; have := HR1.out; have := HM1.out; simp at h1; omega) hy2 hy3)
                have HRR := Lib.hid hR
                clear hR hy1 hy2 hy3
                go_wp2_with (
                  refine HRO.out.mono ?_
                  rintro e w1 ⟨rfl, hk1, Z2, z1, z2, z3, z4⟩
                  have HK1 := Lib.hid (HK.out.trans hk1)
                  have HZ1 := Lib.hid z1
                  have HZ2 := Lib.hid z2
                  have HZ3 := Lib.hid z3
                  have HZ4 := Lib.hid z4
                  clear hk1 z1 z2 z3 z4)
                obtain ⟨s', L', e1, e2⟩ := HEND.out Z2 w1 HZ1.out (by rw [HRR.out]; exact HZ2.out) (by rw [HRR.out]; exact HZ3.out) (by have h1 := HZ4.out; simpa using h1) HK1.out
                exact ⟨⟨s', L', by rw [e1], e2⟩, by simp [intOf]; omega⟩
              · go_wp2
                obtain ⟨s', L', e1, e2⟩ := HEND.out R1 wr (HCH.out.rise (by have := HR1.out; have := HM1.out; omega)) (Fl.refl _) rfl HRW.out HK.out
                exact ⟨⟨s', L', by rw [e1], e2⟩, by simp [intOf]; omega⟩
        · go_wp2
          go_end0
          exact ⟨rfl, HK.out, L1, HCH.out.rise (by have := HL1.out; omega), HFL.out, HL1.out, HRW.out⟩

/-- slices.SortStableFunc of entries by their sizes. -/
theorem sortStable_ (HC : CmpS) (g n c : Nat) (L : List E) (T : List Value) (w : World) (h : Row w g L T) (hn : L.length = n) (hs : n ≤ 100000) :
    Calls Tryz.prog 101 #[.slice (some ⟨g, 0, none⟩) n c, .func (.func 102) #[] #[]] w fun r w' => r = .returned (.tuple #[]) ∧ Keeps (· = g) w w' ∧ ∃ Z, Rise Z ∧ Fl L Z ∧ Z.length = n ∧ Row w' g Z T := by
  have HRO := Lib.hid (stable_ HC g n c L T w h hn hs)
  clear HC h hn
  go_enter Tryz.func101, Tryz.ntmps101
  go_wp2_with fail
  refine HRO.out.mono ?_
  rintro e w1 ⟨rfl, hk, Z, z1, z2, z3, z4⟩
  go_wp2
  go_end0
  exact ⟨rfl, hk, Z, z1, z2, z3, z4⟩
end Go.Proofs.YtgaofnmgdefdcaaGreatDoor.Ss
