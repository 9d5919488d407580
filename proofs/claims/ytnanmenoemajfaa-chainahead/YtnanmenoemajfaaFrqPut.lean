/- What freq's Table puts: its bytes, if it may be one. -/
import Derived.Test.YtnanmenoemajfaaFrqTb
import Derived.Test.YtnanmenoemajfaaItfWr
namespace Go.Proofs.Ytnanmenoemajfaa.Fb
open Go.RowKit Go.Proofs.Ytnanmenoemajfaa.Gen Go.Proofs.Ytnanmenoemajfaa.Wr Go.Proofs.Ytnanmenoemajfaa.It Go.Proofs.Ytnanmenoemajfaa.Fq Go.Proofs.Ytnanmenoemajfaa.Ww
set_option maxRecDepth 100000

theorem many (l : List Int) (v : Array Value) (m : Nat) (w : World) (hl : l.length = 256) (hv : vs l = v) (hm : mny l 256 = m) : Calls Try.prog 55 #[.agg v] w fun r w' => r = .returned (.int .i64 (m : Int)) ∧ w' = w.alloc (.cells v 65) := by
  have HL := Lib.hid hl
  have HZ : Hid ((Try.prog.info? 65).map (·.size) = some v.size) := by show _ = _; rw [← hv]; exact tab_size hl
  have HG : Hid (∀ j, j < 256 → v[j]? = some (.int .i64 (l.getD j 0))) := fun j hj => by rw [← hv]; exact vs_get (by omega)
  have HM := Lib.hid hm
  clear hl hv hm
  go_enter Try.func55, Try.ntmps55
  go_wp2_with ((with_reducible refine ld_row (Blk.new w 65 v) Try.underlying65 HZ.out ?_ ?_); rfl)
  generalize hW : w.alloc (.cells v 65) = W
  have HW := Lib.hid hW
  clear hW
  go_loopw [3, 7] (fun s i wr => ∃ d : Nat, d ≤ 256 ∧ s = .int .i64 (mny l d : Nat) ∧ i = .int .i64 (d : Int) ∧ wr = W) (fun _ i _ => 256 - (intOf i).toNat)
  case atStart => exact ⟨0, by omega, rfl, rfl, rfl⟩
  case round =>
    obtain ⟨d, hd, rfl, rfl, rfl⟩ := hrel
    have hmd := mny_le l d
    obtain ⟨k, hk⟩ : ∃ k, mny l d = k := ⟨_, rfl⟩
    rw [hk] at hmd ⊢
    by_cases hlt : d < 256
    · obtain ⟨x, hx⟩ : ∃ x, l.getD d 0 = x := ⟨_, rfl⟩
      have hgd : ∀ w, (Instr.index 65 (.agg v) (.int .i64 (d : Int))).run Try.prog w = .ok (.int .i64 x) w := run_idx 65 256 Try.underlying65 v .i64 d _ hlt (by rw [HG.out d hlt, hx])
      have hd1 : (d : Int) < 256 := by omega
      by_cases hp : 0 < x
      · have HN : Hid (mny l (d + 1) = k + 1) := by show _ = _; rw [mny, hx, if_pos hp, hk]
        clear hx hk
        go_wp2_with fail
        exact ⟨⟨d + 1, by omega, by rw [HN.out]; go_num, by go_num, trivial⟩, by simp [intOf]; omega⟩
      · have HN : Hid (mny l (d + 1) = k) := by show _ = _; rw [mny, hx, if_neg hp, hk]
        clear hx hk
        go_wp2_with fail
        exact ⟨⟨d + 1, by omega, by rw [HN.out], by go_num, trivial⟩, by simp [intOf]; omega⟩
    · obtain rfl : d = 256 := by omega
      have hmk : k = m := by rw [← hk, HM.out]
      subst hmk
      clear hk
      go_wp2_with fail
      go_ret
      exact ⟨rfl, HW.out.symm⟩

/-- A table that may not be one: nothing is put. -/
theorem put_bad (g : Nat) (l : List Int) (v : Array Value) (k : Int) (w : World) (hl : l.length = 256) (hv : vs l = v) (hk : chk l = k) (hk0 : k ≠ 0) :
    Calls Try.prog 36 #[.agg v, .pointer (some ⟨g, 0, none⟩)] w fun r w' => r = .returned (.int .i64 k) ∧ Keeps (fun _ => False) w w' := by
  have HZ : Hid ((Try.prog.info? 65).map (·.size) = some v.size) := by show _ = _; rw [← hv]; exact tab_size hl
  have HCH : Hid (∀ w, Calls Try.prog 54 #[.agg v] w fun r w' => r = .returned (.int .i64 k) ∧ w' = w.alloc (.cells v 65)) := by
    refine Lib.hid fun w => ?_
    rw [← hv, ← hk]
    exact check l w hl
  have hk1 : (k == 0) = false := by simpa using hk0
  clear hl hv hk
  go_enter Try.func36, Try.ntmps36
  go_wp2_with (first
    | (go_at_call 54; refine (HCH.out _).mono ?_; rintro e w2 ⟨rfl, hw2⟩; have HK2 : Hid (Keeps (fun _ => False) w w2) := (by show Keeps _ _ _; rw [hw2]; exact ((Keeps.refl _ _).alloc _).alloc _); clear hw2)
    | ((with_reducible refine ld_row (Blk.new w 65 v) Try.underlying65 HZ.out ?_ ?_); rfl))
  go_ret
  exact ⟨rfl, HK2.out⟩
theorem put_ok (g base : Nat) (v0 : Value) (ys : List Int) (l : List Int) (v : Array Value) (w : World) (h : IsWr base g v0 ys w) (hn : ys.length + 3000 ≤ 1000000) (hl : l.length = 256) (hv : vs l = v) (hf : Fine l) (hs : l.sum = 4096) :
    Calls Try.prog 36 #[.agg v, .pointer (some ⟨g, 0, none⟩)] w fun r w' => r = .returned (.int .i64 0) ∧ Has base g (ys ++ tabB l) w w' := by
  have HZ : Hid ((Try.prog.info? 65).map (·.size) = some v.size) := by show _ = _; rw [← hv]; exact tab_size hl
  have HG : Hid (∀ j, j < 256 → v[j]? = some (.int .i64 (l.getD j 0))) := fun j hj => by rw [← hv]; exact vs_get (by omega)
  have HCH : Hid (∀ w, Calls Try.prog 54 #[.agg v] w fun r w' => r = .returned (.int .i64 0) ∧ w' = w.alloc (.cells v 65)) := by
    refine Lib.hid fun w => ?_
    have := check l w hl
    rw [hv, show chk l = 0 by rw [chk, if_pos hf, if_pos hs]] at this
    exact this
  obtain ⟨m, hm⟩ : ∃ m, mny l 256 = m := ⟨_, rfl⟩
  have hmb : m ≤ 256 := by rw [← hm]; exact mny_le l 256
  have HMN : Hid (∀ w, Calls Try.prog 55 #[.agg v] w fun r w' => r = .returned (.int .i64 (m : Int)) ∧ w' = w.alloc (.cells v 65)) := fun w => many l v m w hl hv hm
  have HM := Lib.hid hm
  have HL := Lib.hid hl
  have HF := Lib.hid hf
  have H := Lib.hid h
  have HNl := Lib.hid hn
  clear hl hv hf hs hm h
  go_enter Try.func36, Try.ntmps36
  go_upto_region 1 with fail
  obtain ⟨A, hA⟩ : ∃ A, w.heap.size = A := ⟨_, rfl⟩
  generalize hW : w.alloc (.cells v 65) = W
  have HBA : Hid (Blk W A 65 v) := by show Blk _ _ _ _; rw [← hW, ← hA]; exact Blk.new _ _ _
  have HK : Hid (Keeps (fun _ => False) w W) := by show Keeps _ _ _; rw [← hW]; exact (Keeps.refl _ _).alloc _
  have HA := Lib.hid hA
  rw [hA]
  clear hA hW
  go_upto_region 6 with (first
    | (go_at_call 54; refine (HCH.out _).mono ?_; rintro e w2 ⟨rfl, hw2⟩; have hk2 : Keeps (fun _ => False) W w2 := (by rw [hw2]; exact (Keeps.refl _ _).alloc _); have HK2 := Lib.hid (HK.out.trans hk2); have HBA2 := Lib.hid (HBA.out.keeps hk2 id); clear hw2 hk2)
    | ((with_reducible refine ld_row HBA.out Try.underlying65 HZ.out ?_ ?_); rfl))
  clear HBA HK
  have hw1 : IntKind.u32.wrap (m : Int) = (m : Int) := IntWalk.u32_in _ (by omega)
  go_upto_region 7 with (first
    | (go_at_call 55; refine (HMN.out _).mono ?_; rintro e w3 ⟨rfl, hw3⟩; have hk3 : Keeps (fun _ => False) w2 w3 := (by rw [hw3]; exact (Keeps.refl _ _).alloc _); have HK3 := Lib.hid (HK2.out.trans hk3); have HBA3 := Lib.hid (HBA2.out.keeps hk3 id); have HW3 := Lib.hid (H.out.keeps HK3.out (fun _ _ h => h)); clear hw3 hk3 HK2 HBA2)
    | (go_at_call 9; refine (Iw.int g base v0 ys (m : Int) _ HW3.out (by have := HNl.out; omega) (by omega) (by omega)).mono ?_; rintro e w4 hp; obtain rfl := hp.1; have HP := Lib.hid hp; clear hp)
    | ((with_reducible refine ld_row HBA2.out Try.underlying65 HZ.out ?_ ?_); rfl))
  have HBA4 : Hid (Blk w4 A 65 v) := by
    obtain ⟨_, v', _, hk4, _⟩ := HP.out
    refine Lib.hid (HBA3.out.keeps hk4 ?_)
    rintro (e | e)
    · have := H.out.lt; have := HA.out; omega
    · have := (H.out.2.2.2.2.2.lt A e).2; have := HA.out; omega
  have HHas : Hid (Has base g (ys ++ (encInt ((mny l 256 : Nat) : Int) ++ bod l 0)) w w4) := by
    show Has _ _ _ _ _
    rw [HM.out, show bod l 0 = [] from rfl, List.append_nil]
    exact Has.next HW3.out (HK3.out.none_) HP.out
  clear HP HBA3 HK3 HW3
  go_wp2_with ((with_reducible refine ld_row HBA4.out Try.underlying65 HZ.out ?_ ?_); rfl)
  clear HBA4
  go_loopw [6, 22] (fun nv i wr => ∃ d : Nat, d ≤ 256 ∧ nv = .int .i64 (nxt l d : Nat) ∧ i = .int .i64 (d : Int) ∧ Hid (Has base g (ys ++ (encInt ((mny l 256 : Nat) : Int) ++ bod l d)) w wr)) (fun _ i _ => 256 - (intOf i).toNat)
  case atStart => exact ⟨0, by omega, rfl, rfl, HHas⟩
  case round =>
    clear HHas
    obtain ⟨d, hd, rfl, rfl, HH⟩ := hrel
    have hnl := nxt_le l d
    obtain ⟨nx, hnx⟩ : ∃ nx, nxt l d = nx := ⟨_, rfl⟩
    rw [hnx] at hnl ⊢
    by_cases hlt : d < 256
    · obtain ⟨x, hx⟩ : ∃ x, l.getD d 0 = x := ⟨_, rfl⟩
      have hxb : 0 ≤ x ∧ x ≤ 4096 := by rw [← hx]; exact HF.out _ (getD_mem (by rw [HL.out]; exact hlt))
      have hgd : ∀ w, (Instr.index 65 (.agg v) (.int .i64 (d : Int))).run Try.prog w = .ok (.int .i64 x) w := run_idx 65 256 Try.underlying65 v .i64 d _ hlt (by rw [HG.out d hlt, hx])
      have hd1 : (d : Int) < 256 := by omega
      by_cases hp : 0 < x
      · have HN : Hid (nxt l (d + 1) = d + 1) := by show _ = _; rw [nxt, hx, if_pos hp]
        have HB : Hid (bod l (d + 1) = bod l d ++ (encInt (((d - nx : Nat) : Int)) ++ encInt x)) := by show _ = _; rw [bod, hx, if_pos hp, hnx]
        obtain ⟨q, hq⟩ : ∃ q, d - nx = q := ⟨_, rfl⟩
        rw [hq] at HB
        have hqi : (d : Int) - (nx : Int) = (q : Int) := by omega
        have hw2 : IntKind.u32.wrap (q : Int) = (q : Int) := IntWalk.u32_in _ (by omega)
        have hw3 : IntKind.u32.wrap x = x := IntWalk.u32_in _ (by omega)
        have hw4 : IntKind.i64.wrap (q : Int) = (q : Int) := IntWalk.i64_in _ (by omega)
        obtain ⟨z, hz⟩ : ∃ z, ys ++ (encInt ((mny l 256 : Nat) : Int) ++ bod l d) = z := ⟨_, rfl⟩
        have hzl : z.length ≤ 1000000 - 100 := by
          have h1 := (Ib.encInt_len ((mny l 256 : Nat) : Int)).2
          have h2 := bod_len l d
          have h3 := HNl.out
          rw [← hz]
          simp only [List.length_append]
          omega
        have hH := HH.out
        rw [hz] at hH
        obtain ⟨v1, hW1, hK1⟩ := hH
        have HW1 := Lib.hid hW1
        have HK1 := Lib.hid hK1
        have HZE : Hid (ys ++ (encInt ((mny l 256 : Nat) : Int) ++ bod l (d + 1)) = z ++ encInt (q : Int) ++ encInt x) := by show _ = _; rw [HB.out, ← hz]; simp only [List.append_assoc]
        have hel := (Ib.encInt_len (q : Int)).2
        clear hx hnx hq hz hW1 hK1 HH
        go_wp2_with (first
          | (have H1 := HW1; go_at_call 9; refine (Iw.int g base v1 z (q : Int) _ H1.out (by omega) (by omega) (by omega)).mono ?_; rintro e w5 hp5; obtain rfl := hp5.1; have HH5 := Lib.hid (Has.next HW1.out HK1.out hp5); obtain ⟨v5, hW5, hK5⟩ := HH5.out; have HW5 := Lib.hid hW5; have HK5 := Lib.hid hK5; clear hp5 HW1 HK1 H1 hW5 hK5 HH5)
          | (have H1 := HW5; go_at_call 9; refine (Iw.int g base v5 (z ++ encInt (q : Int)) x _ H1.out (by simp only [List.length_append]; omega) (by omega) (by omega)).mono ?_; rintro e w6 hp6; obtain rfl := hp6.1; have HH6 := Lib.hid (Has.next HW5.out HK5.out hp6); clear hp6 HW5 HK5 H1))
        exact ⟨⟨d + 1, by omega, by rw [HN.out]; go_num, by go_num, by rw [HZE.out]; exact HH6⟩, by simp [intOf]; omega⟩
      · have HN : Hid (nxt l (d + 1) = nx) := by show _ = _; rw [nxt, hx, if_neg hp, hnx]
        have HB : Hid (bod l (d + 1) = bod l d) := by show _ = _; rw [bod, hx, if_neg hp]
        clear hx hnx
        go_wp2_with fail
        exact ⟨⟨d + 1, by omega, by rw [HN.out], by go_num, by rw [HB.out]; exact HH⟩, by simp [intOf]; omega⟩
    · obtain rfl : d = 256 := by omega
      clear hnx
      go_wp2_with fail
      go_ret
      exact ⟨rfl, HH.out⟩
end Go.Proofs.Ytnanmenoemajfaa.Fb
