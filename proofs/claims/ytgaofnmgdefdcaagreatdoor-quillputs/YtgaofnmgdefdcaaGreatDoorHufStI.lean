/- Entries by their sizes, each put in its place (slices' insertionSort): those of one size stay as they were. The comparison's contract is a condition. -/
import Derived.Test.YtgaofnmgdefdcaaGreatDoorHufStR
import Derived.Shelf.SlSortCmp.QuietGrown
import Derived.Lib.Small
namespace Go.Proofs.YtgaofnmgdefdcaaGreatDoor.Ss
open Go.RowKit Go.Shelf Go.Sort Go.Proofs.YtgaofnmgdefdcaaGreatDoor.Gen Go.Proofs.YtgaofnmgdefdcaaGreatDoor.Hr Go.Proofs.YtgaofnmgdefdcaaGreatDoor.Hz Go.Proofs.YtgaofnmgdefdcaaGreatDoor.St

/-- What the comparison answers: by sizes. -/
def CmpS : Prop := ∀ (x y : E) (W : World), Calls Tryz.prog 102 #[.agg #[.int .i64 x.1, .int .i64 (x.2 : Int)], .agg #[.int .i64 y.1, .int .i64 (y.2 : Int)]] W fun e w' => e = .returned (.int .i64 (Lib.compareInt (x.2 : Int) (y.2 : Int))) ∧ ∃ q os', w' = grow (W.drewN q) os'
theorem cmpS_lt (x y : Nat) : decide (Lib.compareInt (x : Int) (y : Int) < 0) = decide (x < y) := by
  unfold Lib.compareInt
  by_cases h1 : x < y
  · simp [h1]
  · by_cases h2 : y < x <;> simp [h1, h2]
theorem enters_s : ∀ args w, (callFunc 102 args).run Tryz.prog w = .ok (.enter 102 args) w := enters_of Tryz.func102 (by kernel_rfl) rfl
theorem grown_keeps {S : Nat → Prop} (w : World) (n : Nat) (os : Array Obj) : Keeps S w (grow (w.drewN n) os) := by
  refine ⟨rfl, rfl, rfl, by simp, fun k hk _ => ?_⟩
  rw [heap_grow_old _ _ (by simpa using hk)]
  rfl
theorem ins_out {Z1 Z2 : List E} {x : E} (hr : Rise (Z1 ++ Z2)) (h2 : ∀ z ∈ Z2, x.2 < z.2) (h1 : ∀ y ∈ Z1, y.2 ≤ x.2) : Rise (Z1 ++ x :: Z2) ∧ Fl (Z1 ++ Z2 ++ [x]) (Z1 ++ x :: Z2) := by
  obtain ⟨r1, r2, r3⟩ := rise_app.1 hr
  refine ⟨rise_app.2 ⟨r1, List.pairwise_cons.2 ⟨fun z hz => Nat.le_of_lt (h2 z hz), r2⟩, fun a ha b hb => ?_⟩, ?_⟩
  · rcases List.mem_cons.1 hb with rfl | hb
    · exact h1 a ha
    · exact r3 a ha b hb
  · have := (Fl.refl Z1).app (Fl.turn (A := Z2) (B := [x]) (fun a ha b hb => by rw [List.mem_singleton] at hb; subst hb; exact h2 a ha))
    simpa using this
theorem rise_snoc {Z : List E} {y x : E} (hr : Rise (Z ++ [y])) (h : y.2 ≤ x.2) : ∀ z ∈ Z ++ [y], z.2 ≤ x.2 := by
  obtain ⟨_, _, r3⟩ := rise_app.1 hr
  intro z hz
  rcases List.mem_append.1 hz with hz | hz
  · exact Nat.le_trans (r3 z hz y (by simp)) h
  · rw [List.mem_singleton] at hz
    subst hz
    exact h
/-- An entry's cells in whatever world that has more blocks. -/
theorem Row.cells {w : World} {g p : Nat} {L : List E} {T : List Value} (h : Row w g L T) (hp : p < L.length) :
    (∀ n os, (grow (w.drewN n) os).cell? ⟨g, p * 2, none⟩ = some (.int .i64 (L.getD p (0, 0)).1)) ∧ (∀ n os, (grow (w.drewN n) os).cell? ⟨g, p * 2 + 1, none⟩ = some (.int .i64 ((L.getD p (0, 0)).2 : Int))) :=
  ⟨fun n os => (h.keeps (grown_keeps (S := fun _ => False) w n os) id).at0 hp, fun n os => (h.keeps (grown_keeps (S := fun _ => False) w n os) id).at1 hp⟩

set_option maxHeartbeats 4000000 in
set_option maxRecDepth 4000 in
theorem insertion_ (HC : CmpS) (g n c a b : Nat) (P X Q : List E) (T : List Value) (w : World) (h : Row w g (P ++ X ++ Q) T) (hn : (P ++ X ++ Q).length = n) (hs : n ≤ 100000) (ha : P.length = a) (hb : a + X.length = b) :
    Calls Tryz.prog 128 #[.slice (some ⟨g, 0, none⟩) n c, .int .i64 (a : Int), .int .i64 (b : Int), .func (.func 102) #[] #[]] w fun r w' => r = .returned (.tuple #[]) ∧ Keeps (· = g) w w' ∧ ∃ Z, Rise Z ∧ Fl X Z ∧ Z.length = X.length ∧ Row w' g (P ++ Z ++ Q) T := by
  have HCC : Hid CmpS := HC
  have HE := enters_s
  have mixed : Tryz.prog.follows Departure.mixedOrders = true := by kernel_rfl
  have HR := Lib.hid h
  have hbn : b ≤ n := by simp at hn; omega
  have HN := Lib.hid hn
  have HA := Lib.hid ha
  have HB := Lib.hid hb
  have hab : a ≤ b := by omega
  clear HC h hn ha hb
  go_enter Tryz.func128, Tryz.ntmps128
  go_wp2
  go_loopw [8] (fun iv wr => ∃ (d : Nat) (Z : List E), iv = .int .i64 ((a + d : Nat) : Int) ∧ 1 ≤ d ∧ a + d ≤ b + 1 ∧ Rise Z ∧ Fl (X.take d) Z ∧ Z.length = (X.take d).length ∧ Row wr g (P ++ Z ++ X.drop d ++ Q) T ∧ Keeps (· = g) w wr) (fun iv _ => b + 1 - (intOf iv).toNat)
  case atStart =>
    refine ⟨1, X.take 1, by go_num, by omega, by omega, ?_, Fl.refl _, rfl, by rw [List.append_assoc P, List.take_append_drop]; exact HR.out, Keeps.refl _ _⟩
    cases X with
    | nil => exact .nil
    | cons x X => simp [Rise]
  case round =>
    obtain ⟨d, Z, rfl, hd1, hdb, hrise, hfl, hZl, hrow, hk⟩ := hrel
    have HRI := Lib.hid hrise
    have HFL := Lib.hid hfl
    have HZL := Lib.hid hZl
    have HRW := Lib.hid hrow
    have HK := Lib.hid hk
    clear hrise hfl hZl hrow hk
    obtain ⟨i, hi⟩ : ∃ i, i = a + d := ⟨_, rfl⟩
    rw [← hi] at hdb ⊢
    have hdi : d ≤ i := by omega
    have HI := Lib.hid hi
    clear hi
    by_cases hlt : i < b
    · have hdX : d < X.length := by have := HB.out; have := HI.out; omega
      obtain ⟨x, R, hx⟩ : ∃ x R, X.drop d = x :: R := ⟨_, _, List.drop_eq_getElem_cons hdX⟩
      have HX : Hid (X.take (d + 1) = X.take d ++ [x] ∧ X.drop (d + 1) = R) := by
        have h1 : X = X.take d ++ x :: R := by rw [← hx, List.take_append_drop]
        have hl : (X.take d).length = d := by rw [List.length_take]; omega
        constructor
        · conv => lhs; rw [h1]
          rw [List.take_append, hl, List.take_of_length_le (by omega)]; simp
        · conv => lhs; rw [h1]
          rw [List.drop_append, hl, List.drop_of_length_le (by omega)]; simp
      have HZD : Hid (a + Z.length = i) := by show _ = _; rw [HZL.out, List.length_take]; have := HI.out; omega
      have HR0 : Hid (Row wr g (P ++ Z ++ x :: (R ++ Q)) T) := by
        have h1 := HRW.out
        rw [hx] at h1
        show Row _ _ _ _
        simpa using h1
      have HL0 : Hid (P.length + Z.length + 1 + R.length + Q.length = n) := by
        have h1 := HN.out
        have h2 := congrArg List.length hx
        have h3 := HZD.out
        have h4 := HA.out
        have h5 := HI.out
        rw [List.length_drop] at h2
        simp at h1 h2
        show _ = _
        omega
      clear hx hdX HRW
      go_wp2
      go_loopw [9] (fun jv wx => ∃ (j : Nat) (Z1 Z2 : List E), jv = .int .i64 (j : Int) ∧ j ≤ i ∧ Z1 ++ Z2 = Z ∧ (∀ z ∈ Z2, x.2 < z.2) ∧ a + Z1.length = j ∧ Row wx g (P ++ Z1 ++ x :: (Z2 ++ R ++ Q)) T ∧ Keeps (· = g) w wx) (fun jv _ => (intOf jv).toNat)
      case atStart => exact ⟨i, Z, [], rfl, Nat.le_refl _, by simp, by simp, HZD.out, by simpa using HR0.out, HK.out⟩
      case round =>
        clear HR0 HK
        obtain ⟨j, Z1, Z2, rfl, hji, hZ, hgt, hj, hrow, hk⟩ := hrel
        have HZ := Lib.hid hZ
        have HGT := Lib.hid hgt
        have HJ := Lib.hid hj
        have HRW := Lib.hid hrow
        have HK := Lib.hid hk
        have haj : a ≤ j := by omega
        clear hZ hgt hj hrow hk
        have HOUT : Hid ((∀ y ∈ Z1, y.2 ≤ x.2) → ∀ W, Row W g (P ++ Z1 ++ x :: (Z2 ++ R ++ Q)) T → Keeps (· = g) w W → ∃ (d_1 : Nat) (Z : List E), (((i : Int) + 1) = ((a + d_1 : Nat) : Int)) ∧ 1 ≤ d_1 ∧ a + d_1 ≤ b + 1 ∧ Rise Z ∧ Fl (X.take d_1) Z ∧ Z.length = (X.take d_1).length ∧ Row W g (P ++ Z ++ X.drop d_1 ++ Q) T ∧ Keeps (· = g) w W) := by
          intro hle W hW hkW
          have h1 := HRI.out
          rw [← HZ.out] at h1
          obtain ⟨o1, o2⟩ := ins_out h1 HGT.out hle
          have h0 := HI.out
          refine ⟨d + 1, Z1 ++ x :: Z2, by omega, by omega, by omega, o1, ?_, ?_, ?_, hkW⟩
          · rw [HX.out.1]
            refine (HFL.out.app (Fl.refl [x])).trans ?_
            rw [← HZ.out]
            exact o2
          · have h2 := HZL.out
            rw [← HZ.out, List.length_append] at h2
            rw [HX.out.1, List.length_append, List.length_append, ← h2]
            simp
            omega
          · rw [HX.out.2]
            simpa using hW
        by_cases hja : a < j
        · obtain ⟨p, hp⟩ : ∃ p, j = p + 1 := ⟨j - 1, by omega⟩
          obtain ⟨Z0, y, hZ0⟩ : ∃ Z0 y, Z1 = Z0 ++ [y] := by
            have : Z1 ≠ [] := fun e => by have := HJ.out; rw [e] at this; simp at this; omega
            exact ⟨_, _, (List.dropLast_concat_getLast this).symm⟩
          subst hZ0
          subst hp
          have HZP : Hid ((P ++ Z0).length = p) := by
            have h1 := HJ.out
            have h2 := HA.out
            simp at h1
            show _ = _
            simp
            omega
          have hr2 : Row wr g ((P ++ Z0) ++ y :: ([] ++ x :: (Z2 ++ R ++ Q))) T := by simpa using HRW.out
          have hlp : p + 1 < (P ++ Z0 ++ y :: ([] ++ x :: (Z2 ++ R ++ Q))).length := by have := HZP.out; simp at this ⊢; omega
          obtain ⟨hy0, hy1⟩ := hr2.cells (p := p) (by omega)
          obtain ⟨hx0, hx1⟩ := hr2.cells (p := p + 1) hlp
          have ey : (P ++ Z0 ++ y :: ([] ++ x :: (Z2 ++ R ++ Q))).getD p (0, 0) = y := getD_mid_n HZP.out
          have ex : (P ++ Z0 ++ y :: ([] ++ x :: (Z2 ++ R ++ Q))).getD (p + 1) (0, 0) = x := by
            have : P ++ Z0 ++ y :: ([] ++ x :: (Z2 ++ R ++ Q)) = (P ++ Z0 ++ [y]) ++ x :: (Z2 ++ R ++ Q) := by simp
            rw [this]
            exact getD_mid_n (by have := HZP.out; simp at this ⊢; omega)
          rw [ey] at hy0 hy1
          rw [ex] at hx0 hx1
          have hcg := fun n' os' => HCC.out x y (grow (wr.drewN n') os')
          obtain ⟨r, hr⟩ : ∃ r, r = Lib.compareInt (x.2 : Int) (y.2 : Int) := ⟨_, rfl⟩
          have hrd := cmpS_lt x.2 y.2
          rw [← hr] at hcg hrd
          have hpn : (p : Int) + 1 < (n : Int) := by omega
          have hpn1 : (p : Int) < (n : Int) := by omega
          have hjaz : (a : Int) < (p : Int) + 1 := by omega
          have hjd : decide ((a : Int) < (p : Int) + 1) = true := by simpa using hjaz
          have hwp : IntKind.i64.wrap (p : Int) = (p : Int) := by rw [IntKind.wrap_i64]; omega
          have hsub : (p : Int) + 1 - 1 = (p : Int) := by omega
          have p0 : (0 : Int) ≤ (p : Int) + 1 := by omega
          have e0 : ((p : Int) + 1).toNat = p + 1 := by omega
          obtain ⟨x1, x2⟩ := x
          obtain ⟨y1, y2⟩ := y
          simp only at hx0 hx1 hy0 hy1 hcg hrd
          have HSET : Hid (∀ W, Row W g ((P ++ Z0) ++ (y1, y2) :: ([] ++ (x1, x2) :: (Z2 ++ R ++ Q))) T → _) := fun W hW => (Row.two (p := p) (q := p + 1) hW HZP.out (by simp))
          have HR2 := Lib.hid hr2
          clear hr ey ex hlp hr2
          by_cases hxy : x2 < y2
          · have hrb : r < 0 := by simpa [hxy] using hrd
            clear hrd
            go_wp2_with fail
            go_quiet_grown (first | (go_at_fn 102; refine Calls.grown_of (hcg _ _)))
            go_wp2_with fail
            have HK2 := Lib.hid (HK.out.trans (grown_keeps (S := (· = g)) wr nq osq))
            have hR3 := HR2.out.keeps (grown_keeps (S := fun _ => False) wr nq osq) id
            clear hx0 hx1 hy0 hy1 hcg HR2
            generalize grow (wr.drewN nq) osq = wq at HK2 hR3 ⊢
            obtain ⟨⟨hc0, hc1, hc2, hc3⟩, _, hset⟩ := HSET.out _ hR3
            have hf0 := hR3.frozen (p * 2)
            have hf1 := hR3.frozen (p * 2 + 1)
            have hf2 := hR3.frozen ((p + 1) * 2)
            have hf3 := hR3.frozen ((p + 1) * 2 + 1)
            have HS := Lib.hid hset
            clear hset hR3 HSET
            go_big_region
            all_goals go_wp2
            refine ⟨⟨p, Z0, (y1, y2) :: Z2, rfl, by omega, by rw [← HZ.out]; simp, ?_, by have := HJ.out; simp at this; omega, ?_, ?_⟩, by simp [intOf]⟩
            · intro z hz
              rcases List.mem_cons.1 hz with rfl | hz
              · exact hxy
              · exact HGT.out z hz
            · have h1 := HS.out.drew
              simpa using h1
            · exact ((((HK2.out.setOwn _ _).setOwn _ _).setOwn _ _).setOwn _ _).drewN 1
          · have hrb : ¬ r < 0 := by simpa [hxy] using hrd
            clear hrd
            go_wp2_with fail
            go_quiet_grown (first | (go_at_fn 102; refine Calls.grown_of (hcg _ _)))
            go_wp2
            have HK2 := Lib.hid (HK.out.trans (grown_keeps (S := (· = g)) wr nq osq))
            have HR3 := Lib.hid (HRW.out.keeps (grown_keeps (S := fun _ => False) wr nq osq) id)
            have hrz : Rise (Z0 ++ [(y1, y2)]) := by
              have h1 := HRI.out
              rw [← HZ.out] at h1
              exact (rise_app.1 h1).1
            obtain ⟨d', Z', e1, e2⟩ := HOUT.out (rise_snoc (x := (x1, x2)) hrz (Nat.le_of_not_lt hxy)) _ HR3.out HK2.out
            exact ⟨⟨d', Z', by rw [e1], e2⟩, by simp [intOf]; omega⟩
        · obtain rfl : j = a := by omega
          have HZ1 : Hid (Z1 = []) := List.eq_nil_of_length_eq_zero (by have := HJ.out; omega)
          have hjb : decide ((j : Int) < (j : Int)) = false := by simp
          go_wp2_with fail
          go_big_region
          all_goals go_wp2
          obtain ⟨d', Z', e1, e2⟩ := HOUT.out (by rw [HZ1.out]; simp) _ HRW.out.drew (HK.out.drewN 1)
          exact ⟨⟨d', Z', by rw [e1], e2⟩, by simp [intOf]; omega⟩
    · have hge : X.length ≤ d := by have := HB.out; have := HI.out; omega
      go_wp2
      go_end0
      have h1 := HFL.out
      have h2 := HZL.out
      have h3 := HRW.out
      rw [List.take_of_length_le hge] at h1 h2
      rw [List.drop_of_length_le hge] at h3
      exact ⟨rfl, HK.out, Z, HRI.out, h1, h2, by simpa using h3⟩
end Go.Proofs.YtgaofnmgdefdcaaGreatDoor.Ss
