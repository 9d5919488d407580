/- Two neighbouring rows that rise become one that rises (slices' symMerge), of any lengths. -/
import Derived.Test.YtgaofnmgdefdcaaGreatDoorHufStM
import Derived.Deep.CutRange
namespace Go.Proofs.YtgaofnmgdefdcaaGreatDoor.Ss
open Go.RowKit Go.Shelf Go.Sort Go.Proofs.YtgaofnmgdefdcaaGreatDoor.Gen Go.Proofs.YtgaofnmgdefdcaaGreatDoor.Hr Go.Proofs.YtgaofnmgdefdcaaGreatDoor.Hz Go.Proofs.YtgaofnmgdefdcaaGreatDoor.St

/-- The contract of a merge of the entries from a to b. -/
def SymAt (g n c : Nat) (T : List Value) (k : Nat) : Prop := ∀ (a m b : Nat) (P X Y Q : List E) (w : World), b - a = k → Row w g (P ++ X ++ Y ++ Q) T → (P ++ X ++ Y ++ Q).length = n → P.length = a → a + X.length = m → m + Y.length = b → 0 < X.length → 0 < Y.length → Rise X → Rise Y →
  Calls Tryz.prog 129 #[.slice (some ⟨g, 0, none⟩) n c, .int .i64 (a : Int), .int .i64 (m : Int), .int .i64 (b : Int), .func (.func 102) #[] #[]] w fun r w' => Merged g P (X ++ Y) Q T w r w'

set_option maxHeartbeats 4000000 in
set_option maxRecDepth 100000 in
theorem sym_gen (HC : CmpS) (g n c a m b : Nat) (P X Y Q : List E) (T : List Value) (w : World) (IH : ∀ k, k < b - a → SymAt g n c T k) (h : Row w g (P ++ X ++ Y ++ Q) T) (hn : (P ++ X ++ Y ++ Q).length = n) (hs : n ≤ 100000) (ha : P.length = a) (hm : a + X.length = m) (hb : m + Y.length = b) (hX : 2 ≤ X.length) (hY : 2 ≤ Y.length) (hrx : Rise X) (hry : Rise Y) :
    Calls Tryz.prog 129 #[.slice (some ⟨g, 0, none⟩) n c, .int .i64 (a : Int), .int .i64 (m : Int), .int .i64 (b : Int), .func (.func 102) #[] #[]] w fun r w' => Merged g P (X ++ Y) Q T w r w' := by
  have HCC : Hid CmpS := HC
  have HIH := Lib.hid IH
  have HE := enters_s
  have mixed : Tryz.prog.follows Departure.mixedOrders = true := by kernel_rfl
  have HR := Lib.hid h
  have hbn : b ≤ n := by simp at hn; omega
  have HN := Lib.hid hn
  have HA := Lib.hid ha
  have HM := Lib.hid hm
  have HB := Lib.hid hb
  have HRX := Lib.hid hrx
  have HRY := Lib.hid hry
  have hma : ((m : Int) - (a : Int) == 1) = false := by simp; omega
  have hbm : ((b : Int) - (m : Int) == 1) = false := by simp; omega
  have ham : a + 2 ≤ m := by omega
  have hmb : m + 2 ≤ b := by omega
  clear HC IH h hn ha hb hm hX hY hrx hry
  obtain ⟨mid, hmid⟩ : ∃ mid, mid = (a + b) / 2 := ⟨_, rfl⟩
  have hmi : ((a : Int) + (b : Int)) / 2 = (mid : Int) := by omega
  have hmid1 : a + b ≤ 2 * mid + 1 := by omega
  have hmid2 : 2 * mid ≤ a + b := by omega
  clear hmid
  go_enter Tryz.func129, Tryz.ntmps129
  go_upto_if 140 with fail
  go_cut [20, 21] from 138 to 146 (fun sv rv wx => ∃ s0 r0 : Nat, sv = .int .i64 (s0 : Int) ∧ rv = .int .i64 (r0 : Int) ∧ a ≤ s0 ∧ s0 ≤ r0 ∧ r0 ≤ m ∧ r0 ≤ mid ∧ mid + m ≤ s0 + b ∧ (s0 = a ∨ s0 + b = mid + m) ∧ (r0 = m ∨ r0 = mid) ∧ Row wx g (P ++ X ++ Y ++ Q) T ∧ Keeps (· = g) w wx)
  case first =>
    by_cases hgt : mid < m
    · have hgi : (mid : Int) < (m : Int) := by omega
      go_wp2
      go_meet
      case rel => exact ⟨mid + m - b, mid, by go_num, rfl, by omega, by omega, by omega, by omega, by omega, .inr (by omega), .inr rfl, HR.out, Keeps.refl _ _⟩
    · have hgi : ¬ (mid : Int) < (m : Int) := by omega
      go_wp2
      go_meet
      case rel => exact ⟨a, m, rfl, rfl, by omega, by omega, by omega, by omega, by omega, .inl rfl, .inl rfl, HR.out, Keeps.refl _ _⟩
  case rest =>
    clear HR
    obtain ⟨s0, r0, rfl, rfl, h1, h2, h3, h4, h5, h6, h7, hr0, hk0⟩ := hcut
    have HR := Lib.hid hr0
    have HK0 := Lib.hid hk0
    clear hr0 hk0
    have H6 := Lib.hid h6
    have H7 := Lib.hid h7
    clear h6 h7
    go_wp2
    go_loopw [20, 21] (fun sv rv wr => ∃ s r : Nat, sv = .int .i64 (s : Int) ∧ rv = .int .i64 (r : Int) ∧ s0 ≤ s ∧ s ≤ r ∧ r ≤ r0 ∧ (s0 < s → (X.getD (s - 1 - a) (0, 0)).2 ≤ (Y.getD (mid - s) (0, 0)).2) ∧ (r < r0 → (Y.getD (mid - 1 - r) (0, 0)).2 < (X.getD (r - a) (0, 0)).2) ∧ Row wr g (P ++ X ++ Y ++ Q) T ∧ Keeps (· = g) w wr) (fun sv rv _ => (intOf rv).toNat - (intOf sv).toNat)
    case atStart => exact ⟨s0, r0, rfl, rfl, by omega, h2, by omega, by omega, by omega, HR.out, HK0.out⟩
    case round =>
      obtain ⟨s, r, rfl, rfl, hss, hsr, hrr, hlo, hhi, hrow, hk⟩ := hrel
      have HLO := Lib.hid hlo
      have HHI := Lib.hid hhi
      have HRW := Lib.hid hrow
      have HK := Lib.hid hk
      clear hlo hhi hrow hk HR
      by_cases hlt : s < r
      · obtain ⟨q, hq⟩ : ∃ q, q = (s + r) / 2 := ⟨_, rfl⟩
        have hqi : ((s : Int) + (r : Int)) / 2 = (q : Int) := by omega
        have hsq : s ≤ q := by omega
        have hqr : q < r := by omega
        clear hq
        obtain ⟨o, ho⟩ : ∃ o, o = mid + m - 1 - q := ⟨_, rfl⟩
        have hoi : (mid : Int) + (m : Int) - 1 - (q : Int) = (o : Int) := by omega
        have hmo : m ≤ o := by omega
        have hob : o < b := by omega
        have hom : o - m = mid - 1 - q := by omega
        obtain ⟨x, hx⟩ : ∃ x, x = X.getD (q - a) (0, 0) := ⟨_, rfl⟩
        obtain ⟨y, hy⟩ : ∃ y, y = Y.getD (mid - 1 - q) (0, 0) := ⟨_, rfl⟩
        have hln : (P ++ X ++ Y ++ Q).length = n := HN.out
        have hqX : q - a < X.length := by have := HM.out; omega
        have hoY : mid - 1 - q < Y.length := by have := HB.out; omega
        obtain ⟨hx0, hx1⟩ := HRW.out.cells (p := q) (by omega)
        obtain ⟨hy0, hy1⟩ := HRW.out.cells (p := o) (by omega)
        have ex : (P ++ X ++ Y ++ Q).getD q (0, 0) = x := by
          rw [hx]
          have := getD_app_n (A := P) (B := X) (C := Y ++ Q) (a := a) HA.out (show a ≤ q by omega) rfl hqX
          simpa using this
        have ey : (P ++ X ++ Y ++ Q).getD o (0, 0) = y := by
          rw [hy]
          exact getD_app_n (A := P ++ X) (a := m) (by have := HA.out; have := HM.out; simp; omega) hmo hom.symm hoY
        rw [ex] at hx0 hx1
        rw [ey] at hy0 hy1
        have hcg := fun n' os' => HCC.out y x (grow (wr.drewN n') os')
        obtain ⟨z, hz⟩ : ∃ z, z = Lib.compareInt (y.2 : Int) (x.2 : Int) := ⟨_, rfl⟩
        have hrd := cmpS_lt y.2 x.2
        rw [← hz] at hcg hrd
        have HLT : Hid (y.2 < x.2 ↔ z < 0) := by
          show _ ↔ _
          by_cases h1 : y.2 < x.2 <;> simp [h1] at hrd ⊢ <;> omega
        have HY := Lib.hid hy
        have HX := Lib.hid hx
        obtain ⟨x1, x2⟩ := x
        obtain ⟨y1, y2⟩ := y
        simp only at hx0 hx1 hy0 hy1 hcg HLT
        have hqn : (q : Int) < (n : Int) := by omega
        have hon : (o : Int) < (n : Int) := by omega
        have hwo : IntKind.i64.wrap (o : Int) = (o : Int) := by rw [IntKind.wrap_i64]; omega
        clear hz ex ey hrd hln hx hy hqX hoY ho hom
        have hj2 : r ≤ 2 * n := by omega
        go_upto_region 35 with fail
        go_quiet_grown (first | (go_at_fn 102; refine Calls.grown_of (hcg _ _)))
        have HK2 := Lib.hid (HK.out.trans (grown_keeps (S := (· = g)) wr nq osq))
        have HR2 := Lib.hid (HRW.out.keeps (grown_keeps (S := fun _ => False) wr nq osq) id)
        clear hx0 hx1 hy0 hy1 hcg HRW HK
        generalize grow (wr.drewN nq) osq = wq at HK2 HR2 ⊢
        by_cases hrb : z < 0
        · have hd : (!decide (z < 0)) = false := by simpa using hrb
          rw [hd]
          go_wp2
          refine ⟨⟨s, q, rfl, rfl, hss, hsq, by omega, HLO.out, fun _ => ?_, HR2.out, HK2.out⟩, by simp [intOf]; omega⟩
          rw [← HY.out, ← HX.out]
          exact HLT.out.2 hrb
        · have hd : (!decide (z < 0)) = true := by simpa using hrb
          rw [hd]
          go_wp2
          refine ⟨⟨q + 1, r, by go_num, rfl, by omega, by omega, hrr, fun _ => ?_, HHI.out, HR2.out, HK2.out⟩, by simp [intOf]; omega⟩
          rw [show q + 1 - 1 - a = q - a by omega, show mid - (q + 1) = mid - 1 - q by omega, ← HY.out, ← HX.out]
          exact Nat.le_of_not_lt fun h => hrb (HLT.out.1 h)
      · obtain rfl : s = r := by omega
        clear hlt hsr
        obtain ⟨X1, hX1⟩ : ∃ X1, X1 = X.take (s - a) := ⟨_, rfl⟩
        obtain ⟨X2, hX2⟩ : ∃ X2, X2 = X.drop (s - a) := ⟨_, rfl⟩
        obtain ⟨Y1, hY1⟩ : ∃ Y1, Y1 = Y.take (mid - s) := ⟨_, rfl⟩
        obtain ⟨Y2, hY2⟩ : ∃ Y2, Y2 = Y.drop (mid - s) := ⟨_, rfl⟩
        have hX1l : X1.length = s - a := by rw [hX1, List.length_take]; have := HM.out; omega
        have hX2l : X2.length = m - s := by rw [hX2, List.length_drop]; have := HM.out; omega
        have hY1l : Y1.length = mid - s := by rw [hY1, List.length_take]; have := HB.out; omega
        have hY2l : Y2.length = b - m - (mid - s) := by rw [hY2, List.length_drop]; have := HB.out; omega
        have HXX : Hid (X = X1 ++ X2) := by show _ = _; rw [hX1, hX2, List.take_append_drop]
        have HYY : Hid (Y = Y1 ++ Y2) := by show _ = _; rw [hY1, hY2, List.take_append_drop]
        have HR1 : Hid (Rise X1 ∧ Rise X2 ∧ Rise Y1 ∧ Rise Y2) := by
          rw [hX1, hX2, hY1, hY2]
          exact ⟨(rise_take HRX.out _).1, (rise_take HRX.out _).2, (rise_take HRY.out _).1, (rise_take HRY.out _).2⟩
        have HLT : Hid (∀ b ∈ X2, ∀ a ∈ Y1, a.2 < b.2) := all_lt HR1.out.2.2.1 HR1.out.2.1 (fun g1 g2 => by
          have e := HHI.out (by rcases H7.out with h | h <;> omega)
          rw [hY1l, hY1, hX2, List.getD_eq_getElem?_getD, List.getElem?_take_of_lt (by omega), ← List.getD_eq_getElem?_getD, List.getD_eq_getElem?_getD (l := List.drop _ _), List.getElem?_drop, Nat.add_zero, ← List.getD_eq_getElem?_getD]
          rw [show mid - s - 1 = mid - 1 - s by omega]
          exact e)
        have HLE : Hid (∀ a ∈ X1, ∀ b ∈ Y2, a.2 ≤ b.2) := all_le HR1.out.1 HR1.out.2.2.2 (fun g1 g2 => by
          have e := HLO.out (by rcases H6.out with h | h <;> omega)
          rw [hX1l, hX1, hY2, List.getD_eq_getElem?_getD, List.getElem?_take_of_lt (by omega), ← List.getD_eq_getElem?_getD, List.getD_eq_getElem?_getD (l := List.drop _ _), List.getElem?_drop, Nat.add_zero, ← List.getD_eq_getElem?_getD]
          rw [show s - a - 1 = s - 1 - a by omega]
          exact e)
        have HL1 := Lib.hid hX1l
        have HL2 := Lib.hid hX2l
        have HL3 := Lib.hid hY1l
        have HL4 := Lib.hid hY2l
        have HR2 : Hid (Row wr g ((P ++ X1) ++ X2 ++ Y1 ++ (Y2 ++ Q)) T) := by
          have h1 := HRW.out
          rw [HXX.out, HYY.out] at h1
          show Row _ _ _ _
          simpa using h1
        obtain ⟨en, hen⟩ : ∃ en, en = mid + m - s := ⟨_, rfl⟩
        have heni : (mid : Int) + (m : Int) - (s : Int) = (en : Int) := by omega
        have HEN := Lib.hid hen
        have hsm : s ≤ m := by omega
        have hsmid : s ≤ mid := by omega
        have hmen : m ≤ en := by omega
        have hmiden : mid ≤ en := by omega
        have henb : en ≤ b := by omega
        have has : a ≤ s := by omega
        clear hX1 hX2 hY1 hY2 hX1l hX2l hY1l hY2l HLO HHI HRW hen
        go_upto_region 39 with fail
        go_cut [185] from 178 to 185 (fun bv wx => bv = .bool (decide (s < m ∧ m < en)) ∧ Row wx g ((P ++ X1) ++ X2 ++ Y1 ++ (Y2 ++ Q)) T ∧ Keeps (· = g) w wx)
        case first =>
          by_cases c1 : s < m
          · have d1 : decide ((s : Int) < (m : Int)) = true := by simpa using c1
            by_cases c2 : m < en
            · have d2 : decide ((m : Int) < (en : Int)) = true := by simpa using c2
              go_wp2
              go_meet
              case rel => exact ⟨by simp [c1, c2], HR2.out, HK.out⟩
            · have d2 : decide ((m : Int) < (en : Int)) = false := by simp; omega
              go_wp2
              go_meet
              case rel => exact ⟨by simp [c2], HR2.out, HK.out⟩
          · have d1 : decide ((s : Int) < (m : Int)) = false := by simp; omega
            go_wp2
            go_meet
            case rel => exact ⟨by simp [c1], HR2.out, HK.out⟩
        case rest =>
        clear HR2 HK
        obtain ⟨rfl, hr2, hk2⟩ := hcut
        have HR2 := Lib.hid hr2
        have HK := Lib.hid hk2
        clear hr2 hk2
        go_upto_if 185 with fail
        go_cut [20] from 185 to 191 (fun sv wx => sv = .int .i64 (s : Int) ∧ Row wx g ((P ++ X1) ++ Y1 ++ X2 ++ (Y2 ++ Q)) T ∧ Keeps (· = g) w wx)
        case first =>
          by_cases c1 : s < m ∧ m < en
          · have d1 : decide (s < m ∧ m < en) = true := by simpa using c1
            have HLEN : Hid (((P ++ X1) ++ X2 ++ Y1 ++ (Y2 ++ Q)).length = n) := by
              have h1 := HN.out
              rw [HXX.out, HYY.out] at h1
              show List.length _ = n
              rw [← h1]
              simp
            have HRO := Lib.hid (fun F => rotate_ g n c s m en F (P ++ X1) X2 Y1 (Y2 ++ Q) T wc HR2.out HLEN.out hs (by have := HA.out; have := HL1.out; simp; omega) (by have := HL2.out; omega) (by have := HL3.out; have := HEN.out; omega) (by have := HL2.out; omega) (by have := HL3.out; have := HEN.out; omega))
            clear c1
            rw [d1]
            go_wp2_with fail
            refine (HRO.out _).mono ?_
            rintro e w1 ⟨rfl, hk1, hr1⟩
            have HK1 := Lib.hid (HK.out.trans hk1)
            have HR3 := Lib.hid hr1
            clear hk1 hr1
            go_wp2
            go_meet
            case rel => exact ⟨rfl, HR3.out, HK1.out⟩
          · have d1 : decide (s < m ∧ m < en) = false := by simp; omega
            have HR3 : Hid (Row wc g ((P ++ X1) ++ Y1 ++ X2 ++ (Y2 ++ Q)) T) := by
              have h1 := HR2.out
              show Row _ _ _ _
              rcases Nat.lt_or_ge s m with c2 | c2
              · have hY : Y1 = [] := List.eq_nil_of_length_eq_zero (by have := HL3.out; have := HEN.out; omega)
                rw [hY] at h1 ⊢
                simpa using h1
              · have hX : X2 = [] := List.eq_nil_of_length_eq_zero (by have := HL2.out; omega)
                rw [hX] at h1 ⊢
                simpa using h1
            clear c1
            rw [d1]
            go_wp2
            go_meet
            case rel => exact ⟨rfl, HR3.out, HK.out⟩
        case rest =>
        clear HR2 HK
        obtain ⟨rfl, hr3, hk3⟩ := hcut
        have HR3 := Lib.hid hr3
        have HK3 := Lib.hid hk3
        clear hr3 hk3
        have HLEN : Hid (P.length + X1.length + X2.length + Y1.length + Y2.length + Q.length = n) := by
          have h1 := HN.out
          rw [HXX.out, HYY.out] at h1
          show _ = _
          rw [← h1]
          simp
          omega
        go_upto_region 41 with fail
        go_cut [199] from 192 to 199 (fun bv wx => bv = .bool (decide (a < s ∧ s < mid)) ∧ Row wx g ((P ++ X1) ++ Y1 ++ X2 ++ (Y2 ++ Q)) T ∧ Keeps (· = g) w wx)
        case first =>
          by_cases c1 : a < s
          · have d1 : decide ((a : Int) < (s : Int)) = true := by simpa using c1
            by_cases c2 : s < mid
            · have d2 : decide ((s : Int) < (mid : Int)) = true := by simpa using c2
              go_wp2
              go_meet
              case rel => exact ⟨by simp [c1, c2], HR3.out, HK3.out⟩
            · have d2 : decide ((s : Int) < (mid : Int)) = false := by simp; omega
              go_wp2
              go_meet
              case rel => exact ⟨by simp [c2], HR3.out, HK3.out⟩
          · have d1 : decide ((a : Int) < (s : Int)) = false := by simp; omega
            go_wp2
            go_meet
            case rel => exact ⟨by simp [c1], HR3.out, HK3.out⟩
        case rest =>
        clear HR3 HK3
        obtain ⟨rfl, hr3, hk3⟩ := hcut
        have HR3 := Lib.hid hr3
        have HK3 := Lib.hid hk3
        clear hr3 hk3
        go_upto_if 199 with fail
        go_cut [20] from 199 to 205 (fun sv wx => sv = .int .i64 (s : Int) ∧ ∃ Z1, Rise Z1 ∧ Fl (X1 ++ Y1) Z1 ∧ Z1.length = X1.length + Y1.length ∧ Row wx g (P ++ Z1 ++ (X2 ++ Y2 ++ Q)) T ∧ Keeps (· = g) w wx)
        case first =>
          by_cases c1 : a < s ∧ s < mid
          · have d1 : decide (a < s ∧ s < mid) = true := by simpa using c1
            have HRO := Lib.hid (HIH.out (mid - a) (by omega) a s mid P X1 Y1 (X2 ++ Y2 ++ Q) _ rfl (by have h1 := HR3.out; simpa using h1) (by have := HLEN.out; simp; omega) HA.out (by have := HL1.out; omega) (by have := HL3.out; omega) (by have := HL1.out; omega) (by have := HL3.out; omega) HR1.out.1 HR1.out.2.2.1)
            clear c1
            rw [d1]
            go_wp2_with fail
            refine HRO.out.mono ?_
            rintro e w1 ⟨rfl, hk1, Z1, z1, z2, z3, z4⟩
            have HK4 := Lib.hid (HK3.out.trans hk1)
            have HZ := Lib.hid (show Rise Z1 ∧ Fl (X1 ++ Y1) Z1 ∧ Z1.length = (X1 ++ Y1).length ∧ Row w1 g (P ++ Z1 ++ (X2 ++ Y2 ++ Q)) T from ⟨z1, z2, z3, z4⟩)
            clear hk1 z1 z2 z3 z4
            go_wp2
            go_meet
            case rel => exact ⟨rfl, Z1, HZ.out.1, HZ.out.2.1, by rw [HZ.out.2.2.1, List.length_append], HZ.out.2.2.2, HK4.out⟩
          · have d1 : decide (a < s ∧ s < mid) = false := by simp; omega
            have HZ : Hid (∃ Z1, Rise Z1 ∧ Fl (X1 ++ Y1) Z1 ∧ Z1.length = X1.length + Y1.length ∧ Row wc g (P ++ Z1 ++ (X2 ++ Y2 ++ Q)) T) := by
              have h1 := HR3.out
              show ∃ Z1, _
              rcases Nat.lt_or_ge a s with c2 | c2
              · have hY : Y1 = [] := List.eq_nil_of_length_eq_zero (by have := HL3.out; omega)
                rw [hY] at h1 ⊢
                exact ⟨X1, HR1.out.1, by rw [List.append_nil]; exact Fl.refl _, by simp, by simpa using h1⟩
              · have hX : X1 = [] := List.eq_nil_of_length_eq_zero (by have := HL1.out; omega)
                rw [hX] at h1 ⊢
                exact ⟨Y1, HR1.out.2.2.1, by rw [List.nil_append]; exact Fl.refl _, by simp, by simpa using h1⟩
            clear c1
            rw [d1]
            go_wp2
            go_meet
            case rel =>
              obtain ⟨Z1, z1, z2, z3, z4⟩ := HZ.out
              exact ⟨rfl, Z1, z1, z2, z3, z4, HK3.out⟩
        case rest =>
        clear HR3 HK3
        obtain ⟨rfl, Z1, z1, z2, z3, hr4, hk4⟩ := hcut
        have HZ1 := Lib.hid z1
        have HZ2 := Lib.hid z2
        have HZ3 := Lib.hid z3
        have HR4 := Lib.hid hr4
        have HK4 := Lib.hid hk4
        clear z1 z2 z3 hr4 hk4
        have HEND : Hid (∀ (Z2 : List E) (W : World), Rise Z2 → Fl (X2 ++ Y2) Z2 → Z2.length = X2.length + Y2.length → Row W g (P ++ Z1 ++ Z2 ++ Q) T → Keeps (· = g) w W → Merged g P (X ++ Y) Q T w (.returned (.tuple #[])) W) := by
          intro Z2 W g1 g2 g3 g4 g5
          have hx := HRX.out
          have hy := HRY.out
          rw [HXX.out] at hx
          rw [HYY.out] at hy
          obtain ⟨m1, m2⟩ := merged hx hy HLT.out HLE.out HZ1.out HZ2.out g1 g2
          refine ⟨rfl, g5, Z1 ++ Z2, m1, by rw [HXX.out, HYY.out]; exact m2, ?_, by simpa using g4⟩
          rw [HXX.out, HYY.out]
          have := HZ3.out
          simp
          omega
        by_cases c1 : mid < en
        · have d1 : decide ((mid : Int) < (en : Int)) = true := by simpa using c1
          by_cases c2 : en < b
          · have d2 : decide ((en : Int) < (b : Int)) = true := by simpa using c2
            have HRO := Lib.hid (HIH.out (b - mid) (by omega) mid en b (P ++ Z1) X2 Y2 Q _ rfl (by have h1 := HR4.out; simpa using h1) (by have := HLEN.out; have := HZ3.out; simp; omega) (by have := HA.out; have := HZ3.out; have := HL1.out; have := HL3.out; simp; omega) (by have := HL2.out; have := HEN.out; omega) (by have := HL4.out; have := HEN.out; omega) (by have := HL2.out; have := HEN.out; omega) (by have := HL4.out; have := HEN.out; omega) HR1.out.2.1 HR1.out.2.2.2)
            go_wp2_with fail
            refine HRO.out.mono ?_
            rintro e w1 ⟨rfl, hk1, Z2, z1, z2, z3, z4⟩
            have HK5 := Lib.hid (HK4.out.trans hk1)
            have HZ := Lib.hid (show Rise Z2 ∧ Fl (X2 ++ Y2) Z2 ∧ Z2.length = (X2 ++ Y2).length ∧ Row w1 g (P ++ Z1 ++ Z2 ++ Q) T from ⟨z1, z2, z3, z4⟩)
            clear hk1 z1 z2 z3 z4
            go_wp2
            go_end0
            exact HEND.out Z2 _ HZ.out.1 HZ.out.2.1 (by rw [HZ.out.2.2.1, List.length_append]) HZ.out.2.2.2 HK5.out
          · have d2 : decide ((en : Int) < (b : Int)) = false := by simp; omega
            have HE1 : Hid (Y2 = []) := List.eq_nil_of_length_eq_zero (by have := HL4.out; have := HEN.out; omega)
            go_wp2
            go_end0
            exact HEND.out X2 _ HR1.out.2.1 (by rw [HE1.out, List.append_nil]; exact Fl.refl _) (by rw [HE1.out]; simp) (by have h1 := HR4.out; rw [HE1.out] at h1; simpa using h1) HK4.out
        · have d1 : decide ((mid : Int) < (en : Int)) = false := by simp; omega
          have HE1 : Hid (X2 = []) := List.eq_nil_of_length_eq_zero (by have := HL2.out; have := HEN.out; omega)
          go_wp2
          go_end0
          exact HEND.out Y2 _ HR1.out.2.2.2 (by rw [HE1.out, List.nil_append]; exact Fl.refl _) (by rw [HE1.out]; simp) (by have h1 := HR4.out; rw [HE1.out] at h1; simpa using h1) HK4.out

theorem symMerge_ (HC : CmpS) (g n c : Nat) (T : List Value) (hs : n ≤ 100000) : ∀ k, SymAt g n c T k := by
  intro k
  induction k using Nat.strongRecOn with
  | _ k ih =>
    intro a m b P X Y Q w hk hr hn ha hm hb hX hY hrx hry
    rcases Nat.lt_or_ge 1 X.length with h1 | h1
    · rcases Nat.lt_or_ge 1 Y.length with h2 | h2
      · exact sym_gen HC g n c a m b P X Y Q T w (fun j hj => ih j (by omega)) hr hn hs ha hm hb h1 h2 hrx hry
      · obtain ⟨y, rfl⟩ : ∃ y, Y = [y] := List.length_eq_one_iff.1 (by omega)
        exact sym_right HC g n c a m b P X Q y T w hr hn hs ha hm (by simpa using hb) (by omega) hrx
    · obtain ⟨x, rfl⟩ : ∃ x, X = [x] := List.length_eq_one_iff.1 (by omega)
      exact sym_left HC g n c a m b P Y Q x T w hr hn hs ha (by simpa using hm) hb hry
end Go.Proofs.YtgaofnmgdefdcaaGreatDoor.Ss
