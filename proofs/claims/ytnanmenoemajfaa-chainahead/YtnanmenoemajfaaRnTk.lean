/- A byte's parts are taken out of a state (rans.State.Take). -/
import Derived.Test.YtnanmenoemajfaaRnPut
namespace Go.Proofs.Ytnanmenoemajfaa.Rs
open Go.RowKit Go.Proofs.Ytnanmenoemajfaa.Gen Go.Proofs.Ytnanmenoemajfaa.Wr Go.Proofs.Ytnanmenoemajfaa.It Go.Proofs.Ytnanmenoemajfaa.Ir Go.Proofs.Ytnanmenoemajfaa.Ib Go.Proofs.Ytnanmenoemajfaa.Fq Go.Proofs.Ytnanmenoemajfaa.Fb Go.Proofs.Ytnanmenoemajfaa.Rp

theorem err_q (g : Nat) (s : RS) (e0 : Int) (base : Nat) (w : World) (h : IsRd base g s w) (he : s.e = e0) : Calls Try.prog 45 #[.pointer (some ⟨g, 0, none⟩)] w fun r w' => r = .returned (.int .i64 e0) ∧ w' = w :=
  (Wr.err g s base w h).mono fun _ _ ⟨h1, h2⟩ => ⟨by rw [h1, he], h2.symm⟩
theorem byte_q (g : Nat) (s s1 : RS) (b : Int) (base : Nat) (w : World) (h : IsRd base g s w) (hb : s.byte = (b, s1)) : Calls Try.prog 46 #[.pointer (some ⟨g, 0, none⟩)] w (Turns base g (.int .u8 b) s1 w) := by
  have := Wr.byte g s base w h
  rw [hb] at this
  exact this
theorem or8 {n x : Nat} (hn : n < 16777216) (hx : x < 256) : bits .or .u32 ((n : Int) * 256) (x : Int) = ((n * 256 + x : Nat) : Int) := by
  have ho := Nat.two_pow_add_eq_or_of_lt (i := 8) (by omega : x < 2 ^ 8) n
  rw [show (n : Int) * 256 = ((n * 256 : Nat) : Int) by simp, u32_or_nat (n * 256) x (by omega) (by omega), show n * 256 = 2 ^ 8 * n by omega, ← ho]
/-- Between two rounds. -/
structure Tkr (base g m : Nat) (s : RS) (f s1 : Nat) (r : RS) (w wr : World) : Prop where
  eq : fill 2 m s = fill f s1 r
  room : (f = 2 ∧ 2048 ≤ s1) ∨ (f = 1 ∧ 524288 ≤ s1) ∨ (f = 0 ∧ 134217728 ≤ s1)
  high : s1 < 2147483648
  rd : IsRd base g r wr
  box : Box w g wr
theorem fill_now {s1 : Nat} {r : RS} (h : ¬ (s1 < 8388608 ∧ r.e = 0)) : ∀ f, fill f s1 r = (s1, r)
  | 0 => rfl
  | f + 1 => by rw [fill, if_neg h]

set_option maxHeartbeats 4000000 in
set_option maxRecDepth 100000 in
theorem stake (g base : Nat) (s s2 : RS) (st p x y : Nat) (w : World) (h : IsRd base g s w) (hx : In x) (hp : 1 ≤ p) (hst : st + p ≤ 4096) (h1 : st ≤ x % 4096) (h2 : x % 4096 < st + p) (hT : takeS st p x s = (y, s2)) :
    Calls Try.prog 49 #[.int .u32 (x : Int), .int .i64 (st : Int), .int .i64 (p : Int), rd g] w (Turns base g (.int .u32 (y : Int)) s2 w) := by
  obtain ⟨m, hm⟩ : ∃ m, low st p x = m := ⟨_, rfl⟩
  obtain ⟨l1, l2, _⟩ := low_in hx hp h1 h2
  rw [hm] at l1 l2
  obtain ⟨a, ha⟩ : ∃ a : Nat, x / 4096 = a := ⟨_, rfl⟩
  obtain ⟨b, hb⟩ : ∃ b : Nat, x % 4096 = b := ⟨_, rfl⟩
  obtain ⟨P, hP⟩ : ∃ P : Nat, p * a = P := ⟨_, rfl⟩
  have hme : P + b - st = m := by rw [← hm, low, ha, hb, hP]
  have hPb : P < 2147483648 := by
    have : p * a ≤ 4096 * a := Nat.mul_le_mul_right _ (by omega)
    have := hx.2
    omega
  have hwp : IntKind.u32.wrap (p : Int) = (p : Int) := IntWalk.u32_in _ (by omega)
  have hws : IntKind.u32.wrap (st : Int) = (st : Int) := IntWalk.u32_in _ (by omega)
  have hdiv : (x : Int) / 4096 = (a : Int) := by omega
  have hmod : (x : Int) % 4096 = (b : Int) := by omega
  have hwa : IntKind.u32.wrap (a : Int) = (a : Int) := IntWalk.u32_in _ (by have := hx.2; omega)
  have hwb : IntKind.u32.wrap (b : Int) = (b : Int) := IntWalk.u32_in _ (by omega)
  have hpa : (p : Int) * (a : Int) = (P : Int) := by rw [← hP]; simp
  have hwP : IntKind.u32.wrap (P : Int) = (P : Int) := IntWalk.u32_in _ (by omega)
  have hwq : IntKind.u32.wrap ((P : Int) + (b : Int)) = (P : Int) + (b : Int) := IntWalk.u32_in _ (by omega)
  have hwr : IntKind.u32.wrap ((P : Int) + (b : Int) - (st : Int)) = (m : Int) := by rw [IntWalk.u32_in _ (by omega)]; omega
  have H := Lib.hid h
  have HT : Hid (takeS st p x s = (y, s2)) := hT
  have HL1 : Hid (2048 ≤ m) := by show 2048 ≤ m; omega
  have HL2 : Hid (m < 2147483648) := by show m < _; omega
  have HM := Lib.hid hm
  clear h hx hp hst h1 h2 hT hm l1 l2 ha hb hP hme hPb
  unfold rd
  go_enter Try.func49, Try.ntmps49
  go_upto_region 1 with fail
  generalize hW : w.alloc (.cells #[.pointer (some ⟨g, 0, none⟩)] 54) = W
  have HX : Hid (Box w g W) := by subst hW; exact Box.new w g H.out.lt
  have HR := Lib.hid (HX.out.rd H.out hW.symm)
  clear hW H
  go_wp2_with fail
  clear hdiv hmod hwa hwb hpa hwP hwq hwr hwp hws
  go_loopw [0] (fun sv wr => ∃ (f s1 : Nat) (r : RS), sv = .int .u32 (s1 : Int) ∧ Hid (Tkr base g m s f s1 r w wr)) (fun sv _ => 2147483648 - (intOf sv).toNat)
  case atStart => exact ⟨2, m, s, rfl, Lib.hid ⟨rfl, .inl ⟨rfl, HL1.out⟩, HL2.out, HR.out, HX.out⟩⟩
  case round =>
    clear HR HX
    obtain ⟨f, s1, r, rfl, HH⟩ := hrel
    have hx := HH.out.box.cell
    by_cases hlt : s1 < 8388608
    · have hd : decide ((s1 : Int) < 8388608) = true := by rw [decide_eq_true_iff]; omega
      by_cases he : r.e = 0
      · obtain ⟨f', rfl⟩ : ∃ f', f = f' + 1 := ⟨f - 1, by have := HH.out.room; omega⟩
        have HER := Lib.hid (err_q g r 0 base wr HH.out.rd he)
        obtain ⟨⟨bi, r1⟩, hb⟩ : ∃ q, r.byte = q := ⟨_, rfl⟩
        have hbo := RS.byte_ok HH.out.rd.2.1
        rw [hb] at hbo
        obtain ⟨bt, rfl⟩ : ∃ bt : Nat, bi = (bt : Int) := ⟨bi.toNat, by have := hbo.2.1; simp only at this; omega⟩
        have hbt : bt < 256 := by have := hbo.2.2; simp only at this; omega
        have HBY := Lib.hid (byte_q g r r1 (bt : Int) base wr HH.out.rd hb)
        have HEQ : Hid (fill (f' + 1) s1 r = fill f' (s1 * 256 + bt) r1) := by
          show fill (f' + 1) s1 r = _
          rw [fill, if_pos ⟨hlt, he⟩, hb]
          rfl
        have hor := or8 (n := s1) (x := bt) (by omega) hbt
        obtain ⟨z, hz⟩ : ∃ z, s1 * 256 + bt = z := ⟨_, rfl⟩
        rw [hz] at hor HEQ
        have HZ := Lib.hid hz
        have hwb : IntKind.u32.wrap (bt : Int) = (bt : Int) := IntWalk.u32_in _ (by omega)
        have hws1 : IntKind.u32.wrap ((s1 : Int) * 256) = (s1 : Int) * 256 := IntWalk.u32_in _ (by omega)
        have HLT := Lib.hid hlt
        have HBT := Lib.hid hbt
        clear hlt he hb hbo hbt hz
        go_wp2_with (first
          | (go_at_call 45
             refine HER.out.mono ?_
             rintro e1 w' ⟨rfl, hw⟩
             rw [hw]
             clear hw)
          | (go_at_call 46
             refine HBY.out.mono ?_
             rintro e1 w2 ⟨rfl, hr2, hk2⟩
             have HR2 := Lib.hid hr2
             have HB2 := Lib.hid (HH.out.box.next hk2)
             clear hr2 hk2))
        refine ⟨⟨f', z, r1, rfl, Lib.hid ⟨by rw [HH.out.eq]; exact HEQ.out, ?_, ?_, HR2.out, HB2.out⟩⟩, ?_⟩
        · have := HH.out.room; have := HZ.out; omega
        · have := HZ.out; have := HLT.out; have := HBT.out; omega
        · have := HZ.out; have := HLT.out; have := HH.out.room; simp [intOf]; omega
      · have HFN : Hid (takeS st p x s = (0, r)) := by
          show _ = _
          rw [takeS, HM.out, HH.out.eq, fill_now (fun h => he h.2)]
          simp only
          rw [if_neg he]
        obtain ⟨e0, he0⟩ : ∃ e0, r.e = e0 := ⟨_, rfl⟩
        have HER := Lib.hid (err_q g r e0 base wr HH.out.rd he0)
        have hne : (e0 == 0) = false := by rw [← he0]; simpa using he
        have hne2 : (e0 != 0) = true := by rw [← he0]; simpa using he
        have hne3 : ¬ (e0 = 0) := by rw [← he0]; exact he
        clear he0 he hlt
        go_wp2_with (
          go_at_call 45
          refine HER.out.mono ?_
          rintro e1 w' ⟨rfl, hw⟩
          rw [hw]
          clear hw)
        go_ret
        have h5 := HT.out
        rw [HFN.out] at h5
        obtain ⟨rfl, rfl⟩ := Prod.mk.inj h5
        exact ⟨rfl, HH.out.rd, HH.out.box.2.1⟩
    · have hd : decide ((s1 : Int) < 8388608) = false := by rw [decide_eq_false_iff_not]; omega
      have HFN : Hid (takeS st p x s = (if r.e = 0 then s1 else 0, r)) := by
        show _ = _
        rw [takeS, HM.out, HH.out.eq, fill_now (fun h => hlt h.1)]
      obtain ⟨e0, he0⟩ : ∃ e0, r.e = e0 := ⟨_, rfl⟩
      have HER := Lib.hid (err_q g r e0 base wr HH.out.rd he0)
      rw [he0] at HFN
      by_cases he : e0 = 0
      · subst he
        clear he0 hlt
        go_wp2_with (
          go_at_call 45
          refine HER.out.mono ?_
          rintro e1 w' ⟨rfl, hw⟩
          rw [hw]
          clear hw)
        go_ret
        have h5 := HT.out
        simp only [HFN.out, if_true] at h5
        obtain ⟨rfl, rfl⟩ := Prod.mk.inj h5
        exact ⟨rfl, HH.out.rd, HH.out.box.2.1⟩
      · have hne2 : (e0 != 0) = true := by simpa using he
        clear he0 hlt
        go_wp2_with (
          go_at_call 45
          refine HER.out.mono ?_
          rintro e1 w' ⟨rfl, hw⟩
          rw [hw]
          clear hw)
        go_ret
        have h5 := HT.out
        rw [HFN.out, if_neg he] at h5
        obtain ⟨rfl, rfl⟩ := Prod.mk.inj h5
        exact ⟨rfl, HH.out.rd, HH.out.box.2.1⟩
end Go.Proofs.Ytnanmenoemajfaa.Rs
