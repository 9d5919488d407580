/- Two neighbouring rows that rise become one that rises (slices' symMerge), where one of them is one entry. -/
import Derived.Test.YtgaofnmgdefdcaaGreatDoorHufStI
namespace Go.Proofs.YtgaofnmgdefdcaaGreatDoor.Ss
open Go.RowKit Go.Shelf Go.Sort Go.Proofs.YtgaofnmgdefdcaaGreatDoor.Gen Go.Proofs.YtgaofnmgdefdcaaGreatDoor.Hr Go.Proofs.YtgaofnmgdefdcaaGreatDoor.Hz Go.Proofs.YtgaofnmgdefdcaaGreatDoor.St

/-- What a merge leaves. -/
def Merged (g : Nat) (P X Q : List E) (T : List Value) (w : World) (r : Ending) (w' : World) : Prop := r = .returned (.tuple #[]) ∧ Keeps (· = g) w w' ∧ ∃ Z, Rise Z ∧ Fl X Z ∧ Z.length = X.length ∧ Row w' g (P ++ Z ++ Q) T
theorem getD_app {A B C : List E} {i : Nat} (hi : i < B.length) : (A ++ B ++ C).getD (A.length + i) (0, 0) = B.getD i (0, 0) := by
  rw [List.append_assoc, List.getD_eq_getElem?_getD, List.getD_eq_getElem?_getD, List.getElem?_append_right (by omega), Nat.add_sub_cancel_left, List.getElem?_append_left hi]
theorem getD_app_n {A B C : List E} {a i j : Nat} (ha : A.length = a) (h : a ≤ j) (hi : i = j - a) (hb : i < B.length) : (A ++ B ++ C).getD j (0, 0) = B.getD i (0, 0) := by
  obtain rfl : j = A.length + i := by omega
  exact getD_app hb
theorem rise_take {l : List E} (h : Rise l) (t : Nat) : Rise (l.take t) ∧ Rise (l.drop t) := by
  have := h
  rw [← List.take_append_drop t l] at this
  exact ⟨(rise_app.1 this).1, (rise_app.1 this).2.1⟩
theorem half (x : Nat) : (x : Int) / 2 = ((x / 2 : Nat) : Int) := by omega

set_option maxHeartbeats 4000000 in
set_option maxRecDepth 100000 in
theorem sym_left (HC : CmpS) (g n c a m b : Nat) (P Y Q : List E) (x : E) (T : List Value) (w : World) (h : Row w g (P ++ [x] ++ Y ++ Q) T) (hn : (P ++ [x] ++ Y ++ Q).length = n) (hs : n ≤ 100000) (ha : P.length = a) (hm : a + 1 = m) (hb : m + Y.length = b) (hr : Rise Y) :
    Calls Tryz.prog 129 #[.slice (some ⟨g, 0, none⟩) n c, .int .i64 (a : Int), .int .i64 (m : Int), .int .i64 (b : Int), .func (.func 102) #[] #[]] w fun r w' => Merged g P ([x] ++ Y) Q T w r w' := by
  have HCC : Hid CmpS := HC
  have HE := enters_s
  have mixed : Tryz.prog.follows Departure.mixedOrders = true := by kernel_rfl
  have HR := Lib.hid h
  have hbn : b ≤ n := by simp at hn; omega
  have HN := Lib.hid hn
  have HA := Lib.hid ha
  have HB := Lib.hid hb
  have HRI := Lib.hid hr
  have HM := Lib.hid hm
  have hma : (m : Int) - (a : Int) = 1 := by omega
  have ham : a < m := by omega
  have hmb : m ≤ b := by omega
  clear HC h hn ha hb hr hm
  go_enter Tryz.func129, Tryz.ntmps129
  go_wp2
  go_loopw [10, 11] (fun iv jv wr => ∃ i j : Nat, iv = .int .i64 (i : Int) ∧ jv = .int .i64 (j : Int) ∧ m ≤ i ∧ i ≤ j ∧ j ≤ b ∧ (m < i → (Y.getD (i - 1 - m) (0, 0)).2 < x.2) ∧ (j < b → x.2 ≤ (Y.getD (j - m) (0, 0)).2) ∧ Row wr g (P ++ [x] ++ Y ++ Q) T ∧ Keeps (· = g) w wr) (fun iv jv _ => (intOf jv).toNat - (intOf iv).toNat)
  case atStart => exact ⟨m, b, rfl, rfl, Nat.le_refl _, hmb, Nat.le_refl _, by omega, by omega, HR.out, Keeps.refl _ _⟩
  case round =>
    obtain ⟨i, j, rfl, rfl, hmi, hij, hjb, hlo, hhi, hrow, hk⟩ := hrel
    have HLO := Lib.hid hlo
    have HHI := Lib.hid hhi
    have HRW := Lib.hid hrow
    have HK := Lib.hid hk
    clear hlo hhi hrow hk HR
    by_cases hlt : i < j
    · obtain ⟨q, hq⟩ : ∃ q, q = (i + j) / 2 := ⟨_, rfl⟩
      have hqi : ((i : Int) + (j : Int)) / 2 = (q : Int) := by omega
      have hiq : i ≤ q := by omega
      have hqj : q < j := by omega
      clear hq
      obtain ⟨y, hy⟩ : ∃ y, y = Y.getD (q - m) (0, 0) := ⟨_, rfl⟩
      have hqY : q - m < Y.length := by have := HB.out; omega
      have hln : (P ++ [x] ++ Y ++ Q).length = n := HN.out
      obtain ⟨hx0, hx1⟩ := HRW.out.cells (p := a) (by omega)
      obtain ⟨hy0, hy1⟩ := HRW.out.cells (p := q) (by omega)
      have ex : (P ++ [x] ++ Y ++ Q).getD a (0, 0) = x := by
        have := getD_app_n (A := P) (B := [x]) (C := Y ++ Q) (i := 0) HA.out (Nat.le_refl _) (by omega) (by simp)
        simpa using this
      have ey : (P ++ [x] ++ Y ++ Q).getD q (0, 0) = y := by
        rw [hy]
        exact getD_app_n (A := P ++ [x]) (a := m) (by have := HA.out; have := HM.out; simp; omega) (by omega) rfl hqY
      rw [ex] at hx0 hx1
      rw [ey] at hy0 hy1
      have hcg := fun n' os' => HCC.out y x (grow (wr.drewN n') os')
      obtain ⟨r, hr⟩ : ∃ r, r = Lib.compareInt (y.2 : Int) (x.2 : Int) := ⟨_, rfl⟩
      have hrd := cmpS_lt y.2 x.2
      rw [← hr] at hcg hrd
      have HLT : Hid (y.2 < x.2 ↔ r < 0) := by
        show _ ↔ _
        by_cases h1 : y.2 < x.2 <;> simp [h1] at hrd ⊢ <;> omega
      have HY := Lib.hid hy
      obtain ⟨x1, x2⟩ := x
      obtain ⟨y1, y2⟩ := y
      simp only at hx0 hx1 hy0 hy1 hcg HLT
      have hqn : (q : Int) < (n : Int) := by omega
      have han : (a : Int) < (n : Int) := by omega
      clear hr ex ey hrd hln hy hqY
      have hj2 : j ≤ 2 * n := by omega
      go_upto_region 5 with fail
      go_quiet_grown (first | (go_at_fn 102; refine Calls.grown_of (hcg _ _)))
      have HK2 := Lib.hid (HK.out.trans (grown_keeps (S := (· = g)) wr nq osq))
      have HR2 := Lib.hid (HRW.out.keeps (grown_keeps (S := fun _ => False) wr nq osq) id)
      clear hx0 hx1 hy0 hy1 hcg HRW HK
      generalize grow (wr.drewN nq) osq = wq at HK2 HR2 ⊢
      by_cases hrb : r < 0
      · go_wp2
        refine ⟨⟨q + 1, j, by go_num, rfl, by omega, by omega, hjb, fun _ => ?_, HHI.out, HR2.out, HK2.out⟩, by simp [intOf]; omega⟩
        rw [show q + 1 - 1 - m = q - m by omega, ← HY.out]
        exact HLT.out.2 hrb
      · go_wp2
        refine ⟨⟨i, q, rfl, rfl, hmi, hiq, by omega, HLO.out, fun _ => ?_, HR2.out, HK2.out⟩, by simp [intOf]; omega⟩
        rw [← HY.out]
        exact Nat.le_of_not_lt fun h => hrb (HLT.out.1 h)
    · obtain rfl : i = j := by omega
      clear hlt hij
      obtain ⟨Y1, hY1⟩ : ∃ Y1, Y1 = Y.take (i - m) := ⟨_, rfl⟩
      obtain ⟨Y2, hY2⟩ : ∃ Y2, Y2 = Y.drop (i - m) := ⟨_, rfl⟩
      have hY1l : Y1.length = i - m := by rw [hY1, List.length_take]; have := HB.out; omega
      have HYY : Hid (Y = Y1 ++ Y2) := by show _ = _; rw [hY1, hY2, List.take_append_drop]
      have HZ : Hid (Rise (Y1 ++ x :: Y2) ∧ Fl ([x] ++ Y) (Y1 ++ x :: Y2)) := by
        have hr1 : Rise Y1 := by rw [hY1]; exact (rise_take HRI.out _).1
        have hr2 : Rise Y2 := by rw [hY2]; exact (rise_take HRI.out _).2
        have hlt : ∀ z ∈ [x], ∀ y ∈ Y1, y.2 < z.2 := all_lt hr1 (by simp [Rise]) (fun h1 _ => by
          have h2 := HLO.out (by omega)
          rw [hY1l, hY1, List.getD_eq_getElem?_getD, List.getElem?_take_of_lt (by omega), ← List.getD_eq_getElem?_getD]
          rw [show i - m - 1 = i - 1 - m by omega]
          simpa using h2)
        have hle : ∀ z ∈ [x], ∀ y ∈ Y2, z.2 ≤ y.2 := all_le (by simp [Rise]) hr2 (fun _ h1 => by
          have h2 := HHI.out (by rw [hY2, List.length_drop] at h1; have := HB.out; omega)
          rw [hY2, List.getD_eq_getElem?_getD, List.getD_eq_getElem?_getD, List.getElem?_drop, Nat.add_zero, ← List.getD_eq_getElem?_getD (l := Y)]
          simpa using h2)
        have hrY := HRI.out
        rw [HYY.out] at hrY
        have h4 := (rise_app.1 hrY).2.2
        refine ⟨rise_app.2 ⟨hr1, List.pairwise_cons.2 ⟨fun y hy => hle x (by simp) y hy, hr2⟩, fun y hy z hz => ?_⟩, ?_⟩
        · rcases List.mem_cons.1 hz with rfl | hz
          · exact Nat.le_of_lt (hlt z (by simp) y hy)
          · exact h4 y hy z hz
        · rw [HYY.out]
          have := (Fl.turn (A := [x]) (B := Y1) hlt).app (Fl.refl Y2)
          simpa using this
      have HY1L := Lib.hid hY1l
      have HR2 : Hid (Row wr g (P ++ [] ++ x :: (Y1 ++ Y2 ++ Q)) T) := by
        have h1 := HRW.out
        rw [HYY.out] at h1
        show Row _ _ _ _
        simpa using h1
      have HYL : Hid (Y1.length + Y2.length = Y.length) := by show _ = _; rw [HYY.out, List.length_append]
      have hip : 0 < i := by omega
      clear hY1 hY2 hY1l HLO HHI HRW
      go_wp2
      go_loopw [13] (fun kv wx => ∃ (k : Nat) (A B : List E), kv = .int .i64 (k : Int) ∧ A ++ B = Y1 ∧ a + A.length = k ∧ Row wx g (P ++ A ++ x :: (B ++ Y2 ++ Q)) T ∧ Keeps (· = g) w wx) (fun kv _ => i - (intOf kv).toNat)
      case atStart => exact ⟨a, [], Y1, rfl, by simp, by simp, HR2.out, HK.out⟩
      case round =>
        clear HR2 HK
        obtain ⟨k, A, B, rfl, hAB, hA, hrow, hk⟩ := hrel
        have HAB := Lib.hid hAB
        have HAL := Lib.hid hA
        have HRW := Lib.hid hrow
        have HK := Lib.hid hk
        have hki : k ≤ i - 1 := by
          have h1 := congrArg List.length hAB
          have h2 := HY1L.out
          have h3 := HM.out
          rw [List.length_append] at h1
          omega
        clear hAB hA hrow hk
        by_cases hlt : k < i - 1
        · have hlt2 : k + 1 < i := by omega
          obtain ⟨y, B', rfl⟩ : ∃ y B', B = y :: B' := by
            cases B with
            | nil =>
              have h1 := congrArg List.length HAB.out
              have h2 := HY1L.out
              have h3 := HM.out
              have h4 := HAL.out
              rw [List.length_append] at h1
              simp at h1
              omega
            | cons y B' => exact ⟨y, B', rfl⟩
          have HPA : Hid ((P ++ A).length = k) := by show _ = _; have := HA.out; have := HAL.out; simp; omega
          have hr2 : Row wr g ((P ++ A) ++ x :: ([] ++ y :: (B' ++ Y2 ++ Q))) T := by simpa using HRW.out
          obtain ⟨⟨hc0, hc1, hc2, hc3⟩, hset, _⟩ := hr2.two (p := k) (q := k + 1) HPA.out (by simp)
          have hf0 := hr2.frozen (k * 2)
          have hf1 := hr2.frozen (k * 2 + 1)
          have hf2 := hr2.frozen ((k + 1) * 2)
          have hf3 := hr2.frozen ((k + 1) * 2 + 1)
          have HS := Lib.hid hset
          have hkn : (k : Int) + 1 < (n : Int) := by omega
          have hkn1 : (k : Int) < (n : Int) := by omega
          have p0 : (0 : Int) ≤ (k : Int) + 1 := by omega
          have e0 : ((k : Int) + 1).toNat = k + 1 := by omega
          have hkli : (k : Int) < (i : Int) - 1 := by omega
          obtain ⟨x1, x2⟩ := x
          obtain ⟨y1, y2⟩ := y
          simp only at hc0 hc1 hc2 hc3 HS
          clear hset hr2 hlt hlt2 HRW
          go_wp2_with fail
          go_big_region
          all_goals go_wp2
          refine ⟨⟨k + 1, A ++ [(y1, y2)], B', by go_num, by rw [← HAB.out]; simp, by have := HAL.out; simp; omega, ?_, ?_⟩, by simp [intOf]; omega⟩
          · have h1 := HS.out.drew
            simpa using h1
          · exact ((((HK.out.setOwn _ _).setOwn _ _).setOwn _ _).setOwn _ _).drewN 1
        · have hkli : ¬ (k : Int) < (i : Int) - 1 := by omega
          go_wp2
          go_end0
          have hB : B = [] := by
            have h1 := congrArg List.length HAB.out
            have h2 := HY1L.out
            have h3 := HM.out
            have h4 := HAL.out
            rw [List.length_append] at h1
            exact List.eq_nil_of_length_eq_zero (by omega)
          subst hB
          have hAY : A = Y1 := by have := HAB.out; simpa using this
          subst hAY
          refine ⟨rfl, HK.out, A ++ x :: Y2, HZ.out.1, HZ.out.2, ?_, ?_⟩
          · have := HYL.out
            simp
            omega
          · have h1 := HRW.out
            simpa using h1

set_option maxHeartbeats 4000000 in
set_option maxRecDepth 100000 in
theorem sym_right (HC : CmpS) (g n c a m b : Nat) (P X Q : List E) (x : E) (T : List Value) (w : World) (h : Row w g (P ++ X ++ [x] ++ Q) T) (hn : (P ++ X ++ [x] ++ Q).length = n) (hs : n ≤ 100000) (ha : P.length = a) (hm : a + X.length = m) (hb : m + 1 = b) (h2 : X.length ≠ 1) (hr : Rise X) :
    Calls Tryz.prog 129 #[.slice (some ⟨g, 0, none⟩) n c, .int .i64 (a : Int), .int .i64 (m : Int), .int .i64 (b : Int), .func (.func 102) #[] #[]] w fun r w' => Merged g P (X ++ [x]) Q T w r w' := by
  have HCC : Hid CmpS := HC
  have HE := enters_s
  have mixed : Tryz.prog.follows Departure.mixedOrders = true := by kernel_rfl
  have HR := Lib.hid h
  have hbn : b ≤ n := by simp at hn; omega
  have HN := Lib.hid hn
  have HA := Lib.hid ha
  have HM := Lib.hid hm
  have HRI := Lib.hid hr
  have HB := Lib.hid hb
  have hma : ((m : Int) - (a : Int) == 1) = false := by simp; omega
  have hbm : (b : Int) - (m : Int) = 1 := by omega
  have ham : a ≤ m := by omega
  have hmb : m < b := by omega
  clear HC h hn ha hb hr hm h2
  go_enter Tryz.func129, Tryz.ntmps129
  go_wp2
  go_loopw [14, 15] (fun iv jv wr => ∃ i j : Nat, iv = .int .i64 (i : Int) ∧ jv = .int .i64 (j : Int) ∧ a ≤ i ∧ i ≤ j ∧ j ≤ m ∧ (a < i → (X.getD (i - 1 - a) (0, 0)).2 ≤ x.2) ∧ (j < m → x.2 < (X.getD (j - a) (0, 0)).2) ∧ Row wr g (P ++ X ++ [x] ++ Q) T ∧ Keeps (· = g) w wr) (fun iv jv _ => (intOf jv).toNat - (intOf iv).toNat)
  case atStart => exact ⟨a, m, rfl, rfl, Nat.le_refl _, ham, Nat.le_refl _, by omega, by omega, HR.out, Keeps.refl _ _⟩
  case round =>
    obtain ⟨i, j, rfl, rfl, hai, hij, hjm, hlo, hhi, hrow, hk⟩ := hrel
    have HLO := Lib.hid hlo
    have HHI := Lib.hid hhi
    have HRW := Lib.hid hrow
    have HK := Lib.hid hk
    clear hlo hhi hrow hk HR
    by_cases hlt : i < j
    · obtain ⟨q, hq⟩ : ∃ q, q = (i + j) / 2 := ⟨_, rfl⟩
      have hqi : ((i : Int) + (j : Int)) / 2 = (q : Int) := by omega
      have hiq : i ≤ q := by omega
      have hqj : q < j := by omega
      clear hq
      obtain ⟨y, hy⟩ : ∃ y, y = X.getD (q - a) (0, 0) := ⟨_, rfl⟩
      have hqX : q - a < X.length := by have := HM.out; omega
      have hln : (P ++ X ++ [x] ++ Q).length = n := HN.out
      obtain ⟨hx0, hx1⟩ := HRW.out.cells (p := m) (by omega)
      obtain ⟨hy0, hy1⟩ := HRW.out.cells (p := q) (by omega)
      have ex : (P ++ X ++ [x] ++ Q).getD m (0, 0) = x := by
        have := getD_app_n (A := P ++ X) (B := [x]) (C := Q) (a := m) (i := 0) (by have := HA.out; have := HM.out; simp; omega) (Nat.le_refl _) (by omega) (by simp)
        simpa using this
      have ey : (P ++ X ++ [x] ++ Q).getD q (0, 0) = y := by
        rw [hy]
        have := getD_app_n (A := P) (B := X) (C := [x] ++ Q) (a := a) HA.out (show a ≤ q by omega) rfl hqX
        simpa using this
      rw [ex] at hx0 hx1
      rw [ey] at hy0 hy1
      have hcg := fun n' os' => HCC.out x y (grow (wr.drewN n') os')
      obtain ⟨r, hr⟩ : ∃ r, r = Lib.compareInt (x.2 : Int) (y.2 : Int) := ⟨_, rfl⟩
      have hrd := cmpS_lt x.2 y.2
      rw [← hr] at hcg hrd
      have HLT : Hid (x.2 < y.2 ↔ r < 0) := by
        show _ ↔ _
        by_cases h1 : x.2 < y.2 <;> simp [h1] at hrd ⊢ <;> omega
      have HY := Lib.hid hy
      obtain ⟨x1, x2⟩ := x
      obtain ⟨y1, y2⟩ := y
      simp only at hx0 hx1 hy0 hy1 hcg HLT
      have hqn : (q : Int) < (n : Int) := by omega
      have hmn : (m : Int) < (n : Int) := by omega
      clear hr ex ey hrd hln hy hqX
      have hj2 : j ≤ 2 * n := by omega
      go_upto_region 17 with fail
      go_quiet_grown (first | (go_at_fn 102; refine Calls.grown_of (hcg _ _)))
      have HK2 := Lib.hid (HK.out.trans (grown_keeps (S := (· = g)) wr nq osq))
      have HR2 := Lib.hid (HRW.out.keeps (grown_keeps (S := fun _ => False) wr nq osq) id)
      clear hx0 hx1 hy0 hy1 hcg HRW HK
      generalize grow (wr.drewN nq) osq = wq at HK2 HR2 ⊢
      by_cases hrb : r < 0
      · have hd : (!decide (r < 0)) = false := by simpa using hrb
        rw [hd]
        go_wp2
        refine ⟨⟨i, q, rfl, rfl, hai, hiq, by omega, HLO.out, fun _ => ?_, HR2.out, HK2.out⟩, by simp [intOf]; omega⟩
        rw [← HY.out]
        exact HLT.out.2 hrb
      · have hd : (!decide (r < 0)) = true := by simpa using hrb
        rw [hd]
        go_wp2
        refine ⟨⟨q + 1, j, by go_num, rfl, by omega, by omega, hjm, fun _ => ?_, HHI.out, HR2.out, HK2.out⟩, by simp [intOf]; omega⟩
        rw [show q + 1 - 1 - a = q - a by omega, ← HY.out]
        exact Nat.le_of_not_lt fun h => hrb (HLT.out.1 h)
    · obtain rfl : i = j := by omega
      clear hlt hij
      obtain ⟨X1, hX1⟩ : ∃ X1, X1 = X.take (i - a) := ⟨_, rfl⟩
      obtain ⟨X2, hX2⟩ : ∃ X2, X2 = X.drop (i - a) := ⟨_, rfl⟩
      have hX1l : X1.length = i - a := by rw [hX1, List.length_take]; have := HM.out; omega
      have HXX : Hid (X = X1 ++ X2) := by show _ = _; rw [hX1, hX2, List.take_append_drop]
      have HZ : Hid (Rise (X1 ++ x :: X2) ∧ Fl (X ++ [x]) (X1 ++ x :: X2)) := by
        have hr1 : Rise X1 := by rw [hX1]; exact (rise_take HRI.out _).1
        have hr2 : Rise X2 := by rw [hX2]; exact (rise_take HRI.out _).2
        have hle : ∀ y ∈ X1, ∀ z ∈ [x], y.2 ≤ z.2 := all_le hr1 (by simp [Rise]) (fun h1 _ => by
          have h2 := HLO.out (by omega)
          rw [hX1l, hX1, List.getD_eq_getElem?_getD, List.getElem?_take_of_lt (by omega), ← List.getD_eq_getElem?_getD]
          rw [show i - a - 1 = i - 1 - a by omega]
          simpa using h2)
        have hlt : ∀ y ∈ X2, ∀ z ∈ [x], z.2 < y.2 := all_lt (by simp [Rise]) hr2 (fun _ h1 => by
          have h2 := HHI.out (by rw [hX2, List.length_drop] at h1; have := HM.out; omega)
          rw [hX2, List.getD_eq_getElem?_getD, List.getD_eq_getElem?_getD, List.getElem?_drop, Nat.add_zero, ← List.getD_eq_getElem?_getD (l := X)]
          simpa using h2)
        have hrX := HRI.out
        rw [HXX.out] at hrX
        have h5 := ins_out hrX (fun z hz => hlt z hz x (by simp)) (fun y hy => hle y hy x (by simp))
        rw [HXX.out]
        exact h5
      have HX1L := Lib.hid hX1l
      have HR2 : Hid (Row wr g (P ++ X1 ++ X2 ++ x :: ([] ++ Q)) T) := by
        have h1 := HRW.out
        rw [HXX.out] at h1
        show Row _ _ _ _
        simpa using h1
      have HXL : Hid (X1.length + X2.length = X.length) := by show _ = _; rw [HXX.out, List.length_append]
      clear hX1 hX2 hX1l HLO HHI HRW
      go_wp2
      go_loopw [17] (fun kv wx => ∃ (k : Nat) (A B : List E), kv = .int .i64 (k : Int) ∧ A ++ B = X2 ∧ i + A.length = k ∧ Row wx g (P ++ X1 ++ A ++ x :: (B ++ Q)) T ∧ Keeps (· = g) w wx) (fun kv _ => (intOf kv).toNat)
      case atStart => exact ⟨m, X2, [], rfl, by simp, by have := HXL.out; have := HX1L.out; have := HM.out; omega, HR2.out, HK.out⟩
      case round =>
        clear HR2 HK
        obtain ⟨k, A, B, rfl, hAB, hA, hrow, hk⟩ := hrel
        have HAB := Lib.hid hAB
        have HAL := Lib.hid hA
        have HRW := Lib.hid hrow
        have HK := Lib.hid hk
        have hik : i ≤ k := by omega
        have hkm : k ≤ m := by
          have h1 := congrArg List.length hAB
          have h2 := HX1L.out
          have h3 := HM.out
          have h4 := HXL.out
          rw [List.length_append] at h1
          omega
        clear hAB hA hrow hk
        by_cases hlt : i < k
        · obtain ⟨A', y, rfl⟩ : ∃ A' y, A = A' ++ [y] := by
            have : A ≠ [] := fun e => by have := HAL.out; rw [e] at this; simp at this; omega
            exact ⟨_, _, (List.dropLast_concat_getLast this).symm⟩
          obtain ⟨p, hp⟩ : ∃ p, k = p + 1 := ⟨k - 1, by omega⟩
          subst hp
          have HPA : Hid ((P ++ X1 ++ A').length = p) := by show _ = _; have := HA.out; have := HAL.out; have := HX1L.out; simp at this ⊢; simp at *; omega
          have hr2 : Row wr g ((P ++ X1 ++ A') ++ y :: ([] ++ x :: (B ++ Q))) T := by simpa using HRW.out
          obtain ⟨⟨hc0, hc1, hc2, hc3⟩, _, hset⟩ := hr2.two (p := p) (q := p + 1) HPA.out (by simp)
          have hf0 := hr2.frozen (p * 2)
          have hf1 := hr2.frozen (p * 2 + 1)
          have hf2 := hr2.frozen ((p + 1) * 2)
          have hf3 := hr2.frozen ((p + 1) * 2 + 1)
          have HS := Lib.hid hset
          have hkn : (p : Int) + 1 < (n : Int) := by omega
          have hkn1 : (p : Int) < (n : Int) := by omega
          have p0 : (0 : Int) ≤ (p : Int) + 1 := by omega
          have e0 : ((p : Int) + 1).toNat = p + 1 := by omega
          have hwp : IntKind.i64.wrap (p : Int) = (p : Int) := by rw [IntKind.wrap_i64]; omega
          have hsub : (p : Int) + 1 - 1 = (p : Int) := by omega
          have hikz : (i : Int) < (p : Int) + 1 := by omega
          obtain ⟨x1, x2⟩ := x
          obtain ⟨y1, y2⟩ := y
          simp only at hc0 hc1 hc2 hc3 HS
          clear hset hr2 hlt HRW
          go_wp2_with fail
          go_big_region
          all_goals go_wp2
          refine ⟨⟨p, A', (y1, y2) :: B, rfl, by rw [← HAB.out]; simp, by have := HAL.out; simp at this; omega, ?_, ?_⟩, by simp [intOf]⟩
          · have h1 := HS.out.drew
            simpa using h1
          · exact ((((HK.out.setOwn _ _).setOwn _ _).setOwn _ _).setOwn _ _).drewN 1
        · have hkli : ¬ (i : Int) < (k : Int) := by omega
          go_wp2
          go_end0
          have hA0 : A = [] := List.eq_nil_of_length_eq_zero (by have := HAL.out; omega)
          subst hA0
          have hBX : B = X2 := by have := HAB.out; simpa using this
          subst hBX
          refine ⟨rfl, HK.out, X1 ++ x :: B, HZ.out.1, HZ.out.2, ?_, ?_⟩
          · have := HXL.out
            simp
            omega
          · have h1 := HRW.out
            simpa using h1
end Go.Proofs.YtgaofnmgdefdcaaGreatDoor.Ss
