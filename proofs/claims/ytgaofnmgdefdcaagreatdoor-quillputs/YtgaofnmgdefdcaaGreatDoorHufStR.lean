/- Entries in a block: one is set, two change places; ranges change places; two neighbouring rows do (slices' swapRange, rotate). No conditions beyond those that each law names. -/
import Derived.Test.YtgaofnmgdefdcaaGreatDoorJHufRowHufEv
import Derived.Test.YtgaofnmgdefdcaaGreatDoorJHufLineHufStb
import Derived.BigRegion
namespace Go.Proofs.YtgaofnmgdefdcaaGreatDoor.Ss
open Go.RowKit Go.Proofs.YtgaofnmgdefdcaaGreatDoor.Gen Go.Proofs.YtgaofnmgdefdcaaGreatDoor.Hr Go.Proofs.YtgaofnmgdefdcaaGreatDoor.Hz Go.Proofs.YtgaofnmgdefdcaaGreatDoor.St

/-- Entries in a block, and what lies behind them. -/
def Row (w : World) (g : Nat) (L : List E) (T : List Value) : Prop := Blk w g 87 (evs L ++ T).toArray
section
variable {S : Nat → Prop} {w w1 : World} {g j : Nat} {L : List E} {T : List Value}
theorem Row.lt (h : Row w g L T) : g < w.heap.size := Blk.lt h
theorem Row.keeps (h : Row w g L T) (k : Keeps S w w1) (hn : ¬ S g) : Row w1 g L T := Blk.keeps h k hn
theorem Row.drew (h : Row w g L T) : Row w.drew g L T := h
theorem Row.frozen (h : Row w g L T) (i : Nat) : w.frozen? ⟨g, i, none⟩ = false := Blk.frozen h i
theorem Row.at0 (h : Row w g L T) (hj : j < L.length) : w.cell? ⟨g, j * 2, none⟩ = some (.int .i64 (L.getD j (0, 0)).1) := by
  rw [Blk.cell h, List.getElem?_toArray, List.getElem?_append_left (by rw [evs_len]; omega), evs_get0 L j hj]
theorem Row.at1 (h : Row w g L T) (hj : j < L.length) : w.cell? ⟨g, j * 2 + 1, none⟩ = some (.int .i64 ((L.getD j (0, 0)).2 : Int)) := by
  rw [Blk.cell h, List.getElem?_toArray, List.getElem?_append_left (by rw [evs_len]; omega), evs_get1 L j hj]
theorem Row.set (h : Row w g L T) (hj : j < L.length) (x : E) : Row ((w.setCell ⟨g, j * 2, none⟩ (.int .i64 x.1)).setCell ⟨g, j * 2 + 1, none⟩ (.int .i64 (x.2 : Int))) g (L.set j x) T := by
  have h1 := (Blk.setCell h (j * 2) (.int .i64 x.1)).setCell (j * 2 + 1) (.int .i64 (x.2 : Int))
  rw [List.setIfInBounds_toArray, List.setIfInBounds_toArray, List.set_append_left _ _ (by rw [evs_len]; omega), List.set_append_left _ _ (by rw [List.length_set, evs_len]; omega), evs_set] at h1
  exact h1
end
/-- Two entries change places. -/
theorem exch {A B C : List E} {x y : E} : ((A ++ x :: (B ++ y :: C)).set A.length y).set (A.length + 1 + B.length) x = A ++ y :: (B ++ x :: C) := by
  rw [List.set_append_right _ _ (by omega), Nat.sub_self, List.set_cons_zero, List.set_append_right _ _ (by omega)]
  rw [show A.length + 1 + B.length - A.length = B.length + 1 by omega, List.set_cons_succ, List.set_append_right _ _ (by omega), Nat.sub_self, List.set_cons_zero]
theorem getD_mid {A B : List E} {x : E} : (A ++ x :: B).getD A.length (0, 0) = x := by simp [List.getD_eq_getElem?_getD]
theorem getD_mid_n {A B : List E} {x : E} {n : Nat} (h : A.length = n) : (A ++ x :: B).getD n (0, 0) = x := by subst h; exact getD_mid
/-- Two places of a row, the cells of each, and what an exchange leaves. -/
theorem Row.two {w : World} {g p q : Nat} {A B C : List E} {x y : E} {T : List Value} (h : Row w g (A ++ x :: (B ++ y :: C)) T) (hp : A.length = p) (hq : p + 1 + B.length = q) :
    (w.cell? ⟨g, p * 2, none⟩ = some (.int .i64 x.1) ∧ w.cell? ⟨g, p * 2 + 1, none⟩ = some (.int .i64 (x.2 : Int)) ∧ w.cell? ⟨g, q * 2, none⟩ = some (.int .i64 y.1) ∧ w.cell? ⟨g, q * 2 + 1, none⟩ = some (.int .i64 (y.2 : Int))) ∧
    Row ((((w.setCell ⟨g, p * 2, none⟩ (.int .i64 y.1)).setCell ⟨g, p * 2 + 1, none⟩ (.int .i64 (y.2 : Int))).setCell ⟨g, q * 2, none⟩ (.int .i64 x.1)).setCell ⟨g, q * 2 + 1, none⟩ (.int .i64 (x.2 : Int))) g (A ++ y :: (B ++ x :: C)) T ∧
    Row ((((w.setCell ⟨g, q * 2, none⟩ (.int .i64 x.1)).setCell ⟨g, q * 2 + 1, none⟩ (.int .i64 (x.2 : Int))).setCell ⟨g, p * 2, none⟩ (.int .i64 y.1)).setCell ⟨g, p * 2 + 1, none⟩ (.int .i64 (y.2 : Int))) g (A ++ y :: (B ++ x :: C)) T := by
  have hl : (A ++ x :: (B ++ y :: C)).length = p + 1 + B.length + 1 + C.length := by simp; omega
  have e1 : (A ++ x :: (B ++ y :: C)).getD p (0, 0) = x := getD_mid_n hp
  have e2 : (A ++ x :: (B ++ y :: C)).getD q (0, 0) = y := by
    have : A ++ x :: (B ++ y :: C) = (A ++ x :: B) ++ y :: C := by simp
    rw [this]
    exact getD_mid_n (by simp; omega)
  have h0 := h.at0 (j := p) (by omega)
  have h1 := h.at1 (j := p) (by omega)
  have h2 := h.at0 (j := q) (by omega)
  have h3 := h.at1 (j := q) (by omega)
  rw [e1] at h0 h1
  rw [e2] at h2 h3
  have h4 := (h.set (j := p) (by omega) y).set (j := q) (by rw [List.length_set]; omega) x
  have h5 := (h.set (j := q) (by omega) x).set (j := p) (by rw [List.length_set]; omega) y
  rw [List.set_comm _ _ (by omega)] at h5
  subst hp
  rw [← hq, exch] at h4 h5
  rw [← hq]
  refine ⟨⟨h0, h1, ?_, ?_⟩, h4, h5⟩
  · rw [hq]; exact h2
  · rw [hq]; exact h3

/-- One more of each has changed places. -/
theorem swap_step {P A0 A1 M B0 B1 Q : List E} {x y : E} : P ++ B0 ++ (x :: A1) ++ M ++ A0 ++ (y :: B1) ++ Q = (P ++ B0) ++ x :: ((A1 ++ M ++ A0) ++ y :: (B1 ++ Q)) ∧ (P ++ B0) ++ y :: ((A1 ++ M ++ A0) ++ x :: (B1 ++ Q)) = P ++ (B0 ++ [y]) ++ A1 ++ M ++ (A0 ++ [x]) ++ B1 ++ Q := by simp

set_option maxHeartbeats 4000000 in
set_option maxRecDepth 4000 in
theorem swapRange_ (g n c a b k : Nat) (F : Value) (P A M B Q : List E) (T : List Value) (w : World) (h : Row w g (P ++ A ++ M ++ B ++ Q) T) (hn : (P ++ A ++ M ++ B ++ Q).length = n) (hs : n ≤ 100000) (ha : P.length = a) (hA : A.length = k) (hb : a + k + M.length = b) (hB : B.length = k) :
    Calls Tryz.prog 144 #[.slice (some ⟨g, 0, none⟩) n c, .int .i64 (a : Int), .int .i64 (b : Int), .int .i64 (k : Int), F] w fun r w' => r = .returned (.tuple #[]) ∧ Keeps (· = g) w w' ∧ Row w' g (P ++ B ++ M ++ A ++ Q) T := by
  have HR := Lib.hid h
  have hbn : b + k ≤ n := by simp at hn; omega
  have HA := Lib.hid ha
  have HAL := Lib.hid hA
  have HBL := Lib.hid hB
  have HB := Lib.hid hb
  clear h hn ha hA hB hb
  go_enter Tryz.func144, Tryz.ntmps144
  go_wp2
  go_loopw [10] (fun i wr => ∃ d : Nat, d ≤ k ∧ i = .int .i64 (d : Int) ∧ Row wr g (P ++ B.take d ++ A.drop d ++ M ++ A.take d ++ B.drop d ++ Q) T ∧ Keeps (· = g) w wr) (fun i _ => k - (intOf i).toNat)
  case atStart => exact ⟨0, by omega, rfl, by simpa using HR.out, Keeps.refl _ _⟩
  case round =>
    obtain ⟨d, hd, rfl, hrow, hk⟩ := hrel
    have HRW := Lib.hid hrow
    have HK := Lib.hid hk
    clear hrow hk
    by_cases hlt : d < k
    · obtain ⟨x, A1, hx⟩ : ∃ x A1, A.drop d = x :: A1 := ⟨_, _, List.drop_eq_getElem_cons (by rw [HAL.out]; exact hlt)⟩
      obtain ⟨y, B1, hy⟩ : ∃ y B1, B.drop d = y :: B1 := ⟨_, _, List.drop_eq_getElem_cons (by rw [HBL.out]; exact hlt)⟩
      have HX : Hid (A.take (d + 1) = A.take d ++ [x] ∧ A.drop (d + 1) = A1) := by
        have h1 : A = A.take d ++ x :: A1 := by rw [← hx, List.take_append_drop]
        have hl : (A.take d).length = d := by rw [List.length_take, HAL.out]; omega
        constructor
        · conv => lhs; rw [h1]
          rw [List.take_append, hl, List.take_of_length_le (by omega)]; simp
        · conv => lhs; rw [h1]
          rw [List.drop_append, hl, List.drop_of_length_le (by omega)]; simp
      have HY : Hid (B.take (d + 1) = B.take d ++ [y] ∧ B.drop (d + 1) = B1) := by
        have h1 : B = B.take d ++ y :: B1 := by rw [← hy, List.take_append_drop]
        have hl : (B.take d).length = d := by rw [List.length_take, HBL.out]; omega
        constructor
        · conv => lhs; rw [h1]
          rw [List.take_append, hl, List.take_of_length_le (by omega)]; simp
        · conv => lhs; rw [h1]
          rw [List.drop_append, hl, List.drop_of_length_le (by omega)]; simp
      have h1 := HRW.out
      rw [hx, hy, swap_step.1] at h1
      obtain ⟨p, hp⟩ : ∃ p, p = a + d := ⟨_, rfl⟩
      obtain ⟨q, hq⟩ : ∃ q, q = b + d := ⟨_, rfl⟩
      have hA1 : A1.length = k - d - 1 := by
        have := congrArg List.length hx
        rw [List.length_drop, HAL.out] at this
        simp at this
        omega
      obtain ⟨⟨hc0, hc1, hc2, hc3⟩, hset, _⟩ := h1.two (p := p) (q := q) (by simp [HA.out, HBL.out]; omega) (by simp [HAL.out, hA1]; have := HB.out; omega)
      rw [swap_step.2, ← HX.out.1, ← HY.out.1] at hset
      rw [← HX.out.2, ← HY.out.2] at hset
      have HSET := Lib.hid hset
      have HKS := Lib.hid ((((HK.out.setOwn (p * 2) (.int .i64 y.1)).setOwn (p * 2 + 1) (.int .i64 (y.2 : Int))).setOwn (q * 2) (.int .i64 x.1)).setOwn (q * 2 + 1) (.int .i64 (x.2 : Int)))
      have hf0 := h1.frozen (p * 2)
      have hf1 := h1.frozen (p * 2 + 1)
      have hf2 := h1.frozen (q * 2)
      have hf3 := h1.frozen (q * 2 + 1)
      have hpq : p < q := by have := HB.out; omega
      have hpi : (a : Int) + (d : Int) = (p : Int) := by omega
      have hqi : (b : Int) + (d : Int) = (q : Int) := by omega
      have hp0 : (p : Int) < (n : Int) := by omega
      have hq0 : (q : Int) < (n : Int) := by omega
      obtain ⟨x1, x2⟩ := x
      obtain ⟨y1, y2⟩ := y
      simp only at hc0 hc1 hc2 hc3 HSET HKS
      clear hx hy h1 hset hp hq hA1 HX HY HRW
      go_wp2_with fail
      go_big_region
      all_goals go_wp2
      exact ⟨⟨d + 1, by omega, by go_num, HSET.out.drew, HKS.out.drewN 1⟩, by simp [intOf]; omega⟩
    · obtain rfl : d = k := by omega
      go_wp2
      go_end0
      refine ⟨rfl, HK.out, ?_⟩
      have h1 := HRW.out
      rw [List.take_of_length_le (by rw [HBL.out]; omega), List.drop_of_length_le (by rw [HAL.out]; omega), List.take_of_length_le (by rw [HAL.out]; omega), List.drop_of_length_le (by rw [HBL.out]; omega)] at h1
      simpa using h1

set_option maxHeartbeats 4000000 in
set_option maxRecDepth 4000 in
theorem rotate_ (g n c a m b : Nat) (F : Value) (P X Y Q : List E) (T : List Value) (w : World) (h : Row w g (P ++ X ++ Y ++ Q) T) (hn : (P ++ X ++ Y ++ Q).length = n) (hs : n ≤ 100000) (ha : P.length = a) (hm : a + X.length = m) (hb : m + Y.length = b) (hX : 0 < X.length) (hY : 0 < Y.length) :
    Calls Tryz.prog 137 #[.slice (some ⟨g, 0, none⟩) n c, .int .i64 (a : Int), .int .i64 (m : Int), .int .i64 (b : Int), F] w fun r w' => r = .returned (.tuple #[]) ∧ Keeps (· = g) w w' ∧ Row w' g (P ++ Y ++ X ++ Q) T := by
  have HR := Lib.hid h
  have hbn : b ≤ n := by simp at hn; omega
  have HN := Lib.hid hn
  have HA := Lib.hid ha
  have HM := Lib.hid hm
  have HB := Lib.hid hb
  have ham : a < m := by omega
  have hmb : m < b := by omega
  clear h hn ha hm hb hX hY
  go_enter Tryz.func137, Tryz.ntmps137
  go_wp2
  go_loopw [10, 11] (fun iv jv wr => ∃ (i j : Nat) (P' X' Y' Q' : List E), iv = .int .i64 (i : Int) ∧ jv = .int .i64 (j : Int) ∧ 0 < i ∧ 0 < j ∧ X'.length = i ∧ Y'.length = j ∧ P'.length + i = m ∧ P' ++ Y' ++ X' ++ Q' = P ++ Y ++ X ++ Q ∧ Row wr g (P' ++ X' ++ Y' ++ Q') T ∧ Keeps (· = g) w wr) (fun iv jv _ => (intOf iv).toNat + (intOf jv).toNat)
  case atStart => exact ⟨X.length, Y.length, P, X, Y, Q, by have := HM.out; go_num, by have := HB.out; go_num, by have := HM.out; omega, by have := HB.out; omega, rfl, rfl, by have := HM.out; have := HA.out; omega, rfl, HR.out, Keeps.refl _ _⟩
  case round =>
    obtain ⟨i, j, P', X', Y', Q', rfl, rfl, hi, hj, hXl, hYl, hPl, heq, hrow, hk⟩ := hrel
    have hlen : (P' ++ X' ++ Y' ++ Q').length = n := by
      have h1 := congrArg List.length heq
      have h2 := HN.out
      simp at h1 h2 ⊢
      omega
    have HLN := Lib.hid hlen
    have hjn : m + j ≤ n := by simp at hlen; omega
    have HXL := Lib.hid hXl
    have HYL := Lib.hid hYl
    have HPL := Lib.hid hPl
    have HEQ := Lib.hid heq
    have HRW := Lib.hid hrow
    have HK := Lib.hid hk
    have him : i ≤ m := by omega
    obtain ⟨p, hp⟩ : ∃ p, p = m - i := ⟨_, rfl⟩
    have hpi : (m : Int) - (i : Int) = (p : Int) := by omega
    have HP : Hid (P'.length = p) := by show P'.length = p; omega
    clear hXl hYl hPl heq hrow hk hlen hp
    rcases Nat.lt_trichotomy i j with hij | hij | hij
    · -- the left one is the shorter
      obtain ⟨q, hq⟩ : ∃ q, q = m + j - i := ⟨_, rfl⟩
      have hqi : (m : Int) + (j : Int) - (i : Int) = (q : Int) := by omega
      obtain ⟨M, B, hY, hM⟩ : ∃ M B, M ++ B = Y' ∧ M.length = j - i := ⟨_, _, List.take_append_drop (j - i) Y', by rw [List.length_take, HYL.out]; omega⟩
      have hB : B.length = i := by have h1 := congrArg List.length hY; rw [List.length_append, hM, HYL.out] at h1; omega
      have HM' := Lib.hid hM
      have HBL := Lib.hid hB
      have HY := Lib.hid hY
      have HRW2 : Hid (Row wr g (P' ++ X' ++ M ++ B ++ Q') T) := by
        have h1 := HRW.out
        rw [← hY] at h1
        show Row _ _ _ _
        simpa using h1
      have HN2 : Hid ((P' ++ X' ++ M ++ B ++ Q').length = n) := by
        have h1 := HLN.out
        rw [← hY] at h1
        show List.length _ = n
        rw [← h1]
        simp
      have HQ : Hid (p + i + M.length = q) := by show _ = _; omega
      clear hY hM hB hq HRW HLN
      go_wp2_with (
        refine (swapRange_ g n c p q i F P' X' M B Q' T wr HRW2.out HN2.out hs HP.out HXL.out HQ.out HBL.out).mono ?_
        rintro e w1 ⟨rfl, hk1, hr1⟩
        have HK1 := Lib.hid (HK.out.trans hk1)
        have HR1 := Lib.hid hr1
        clear hk1 hr1)
      refine ⟨⟨i, j - i, P', B, M, X' ++ Q', rfl, by go_num, hi, by omega, HBL.out, HM'.out, by have := HP.out; omega, ?_, ?_, HK1.out⟩, ?_⟩
      · rw [← HEQ.out, ← HY.out]
        simp
      · have h1 := HR1.out
        simpa using h1
      · simp [intOf]
        omega
    · subst hij
      have HRW2 : Hid (Row wr g (P' ++ X' ++ [] ++ Y' ++ Q') T) := by
        have h1 := HRW.out
        show Row _ _ _ _
        simpa using h1
      have HN2 : Hid ((P' ++ X' ++ [] ++ Y' ++ Q').length = n) := by
        have h1 := HLN.out
        show List.length _ = n
        rw [← h1]
        simp
      have HQ : Hid (p + i + ([] : List E).length = m) := by show _ = _; simp; omega
      clear HRW HLN
      go_wp2_with (
        refine (swapRange_ g n c p m i F P' X' [] Y' Q' T wr HRW2.out HN2.out hs HP.out HXL.out HQ.out HYL.out).mono ?_
        rintro e w1 ⟨rfl, hk1, hr1⟩
        have HK1 := Lib.hid (HK.out.trans hk1)
        have HR1 := Lib.hid hr1
        clear hk1 hr1)
      go_end0
      refine ⟨rfl, HK1.out, ?_⟩
      rw [← HEQ.out]
      have h1 := HR1.out
      simpa using h1
    · -- the right one is
      obtain ⟨A, M, hX, hA⟩ : ∃ A M, A ++ M = X' ∧ A.length = j := ⟨_, _, List.take_append_drop j X', by rw [List.length_take, HXL.out]; omega⟩
      have hM : M.length = i - j := by have h1 := congrArg List.length hX; rw [List.length_append, hA, HXL.out] at h1; omega
      have HM' := Lib.hid hM
      have HAL := Lib.hid hA
      have HX := Lib.hid hX
      have HRW2 : Hid (Row wr g (P' ++ A ++ M ++ Y' ++ Q') T) := by
        have h1 := HRW.out
        rw [← hX] at h1
        show Row _ _ _ _
        simpa using h1
      have HN2 : Hid ((P' ++ A ++ M ++ Y' ++ Q').length = n) := by
        have h1 := HLN.out
        rw [← hX] at h1
        show List.length _ = n
        rw [← h1]
        simp
      have HQ : Hid (p + j + M.length = m) := by show _ = _; omega
      clear hX hA hM HRW HLN
      go_wp2_with (
        refine (swapRange_ g n c p m j F P' A M Y' Q' T wr HRW2.out HN2.out hs HP.out HAL.out HQ.out HYL.out).mono ?_
        rintro e w1 ⟨rfl, hk1, hr1⟩
        have HK1 := Lib.hid (HK.out.trans hk1)
        have HR1 := Lib.hid hr1
        clear hk1 hr1)
      refine ⟨⟨i - j, j, P' ++ Y', M, A, Q', by go_num, rfl, by omega, hj, HM'.out, HAL.out, by rw [List.length_append, HYL.out]; have := HP.out; omega, ?_, ?_, HK1.out⟩, ?_⟩
      · rw [← HEQ.out, ← HX.out]
        simp
      · have h1 := HR1.out
        simpa using h1
      · simp [intOf]
        omega
end Go.Proofs.YtgaofnmgdefdcaaGreatDoor.Ss
