/- A Writer that is put into, beside what else lies there: words, a table, four states. -/
import Derived.Test.YtnanmenoemajfaaRnFour
import Derived.Test.YtnanmenoemajfaaFrqPut
namespace Go.Proofs.Ytnanmenoemajfaa.Rs
open Go.RowKit Go.Proofs.Ytnanmenoemajfaa.Gen Go.Proofs.Ytnanmenoemajfaa.Wr Go.Proofs.Ytnanmenoemajfaa.Ww Go.Proofs.Ytnanmenoemajfaa.It Go.Proofs.Ytnanmenoemajfaa.Ir Go.Proofs.Ytnanmenoemajfaa.Ib Go.Proofs.Ytnanmenoemajfaa.Fq Go.Proofs.Ytnanmenoemajfaa.Fb Go.Proofs.Ytnanmenoemajfaa.Rp

/-- A Writer that was v0, and has ys now: only its own blocks have turned. -/
def Hav (base g : Nat) (v0 : Value) (ys : List Int) (w0 w' : World) : Prop := ∃ v, IsWr base g v ys w' ∧ (Keeps (Its g v0) w0 w' ∧ At w0 v0 v)
theorem Hav.next {base g : Nat} {v0 v : Value} {ys zs : List Int} {w0 w w' : World} {r : Ending} (_h : IsWr base g v ys w) (k : Keeps (Its g v0) w0 w ∧ At w0 v0 v) (hp : Puts base g v zs w r w') : Hav base g v0 zs w0 w' := by
  obtain ⟨_, v', h1, h2, h3⟩ := hp
  exact ⟨v', h1, its_next k.1 k.2 h2, at_next k.1.size k.2 h3⟩
theorem hav_next {base g : Nat} {v0 : Value} {ys : List Int} {w0 w w1 : World} (h : Hav base g v0 ys w0 w) (k : Keeps (fun _ => False) w w1) : Hav base g v0 ys w0 w1 := by
  obtain ⟨v, h1, h2, h3⟩ := h
  exact ⟨v, h1.keeps k (fun _ _ => id), h2.trans k.none_, h3⟩
theorem hword (g : Nat) (base : Nat) (v0 : Value) (ys : List Int) (n : Int) (w0 w : World) (h : Hav base g v0 ys w0 w) (hn : ys.length + 4 ≤ 1000000) (_h0 : 0 ≤ n) (_h1 : n < 4294967296) :
    Calls Try.prog 37 #[.pointer (some ⟨g, 0, none⟩), .int .u32 n] w fun r w' => r = .returned (.tuple #[]) ∧ Hav base g v0 (ys ++ lows n 4) w0 w' := by
  have H := Lib.hid h
  clear h
  go_enter Try.func37, Try.ntmps37
  go_wp2
  go_loopw [5] (fun k wr => ∃ j : Nat, j ≤ 4 ∧ k = .int .i64 j ∧ Hav base g v0 (ys ++ lows n j) w0 wr) (fun k _ => 4 - (intOf k).toNat)
  case atStart => exact ⟨0, Nat.zero_le _, rfl, by simpa [lows] using H.out⟩
  case round =>
    obtain ⟨j, hj, rfl, hh⟩ := hrel
    have HH := Lib.hid hh
    clear hh
    have hlen := lows_len n j
    have HLEN := Lib.hid hlen
    clear hlen
    by_cases hlt : j < 4
    · obtain ⟨v, hw, hk⟩ := HH.out
      have HW := Lib.hid hw
      have HK := Lib.hid hk
      clear hw hk HH
      go_wp2_with fail
      refine (Ww.byte g base v _ _ _ HW.out (by simp [HLEN.out]; omega)).mono ?_
      rintro e w2 hp
      obtain rfl := hp.1
      have HP := Lib.hid (Hav.next HW.out HK.out hp)
      clear hp
      go_wp2
      exact ⟨⟨j + 1, by omega, by go_num, by simpa [lows] using HP.out⟩, by simp [intOf]; omega⟩
    · obtain rfl : j = 4 := by omega
      go_wp2
      go_end0
      exact ⟨rfl, HH.out⟩
theorem hput_ok (g base : Nat) (v0 : Value) (ys : List Int) (l : List Int) (v : Array Value) (w : World) (h : IsWr base g v0 ys w) (hn : ys.length + 3000 ≤ 1000000) (hl : l.length = 256) (hv : vs l = v) (hf : Fine l) (hs : l.sum = 4096) :
    Calls Try.prog 36 #[.agg v, .pointer (some ⟨g, 0, none⟩)] w fun r w' => r = .returned (.int .i64 0) ∧ Hav base g v0 (ys ++ tabB l) w w' := by
  have HZ : Hid ((Try.prog.info? 65).map (·.size) = some v.size) := by show _ = _; rw [← hv]; exact tab_size hl
  have HG : Hid (∀ j, j < 256 → v[j]? = some (.int .i64 (l.getD j 0))) := fun j hj => by rw [← hv]; exact vs_get (by omega)
  have HCH : Hid (∀ w, Calls Try.prog 54 #[.agg v] w fun r w' => r = .returned (.int .i64 0) ∧ w' = w.alloc (.cells v 65)) := by
    refine Lib.hid fun w => ?_
    have := check l w hl
    rw [hv, show chk l = 0 by rw [chk, if_pos hf, if_pos hs]] at this
    exact this
  obtain ⟨m, hm⟩ : ∃ m, mny l 256 = m := ⟨_, rfl⟩
  have hmb : m ≤ 256 := by rw [← hm]; exact mny_le l 256
  have HMN : Hid (∀ w, Calls Try.prog 55 #[.agg v] w fun r w' => r = .returned (.int .i64 (m : Int)) ∧ w' = w.alloc (.cells v 65)) := fun w => many l v m w hl hv hm
  have HM := Lib.hid hm
  have HL := Lib.hid hl
  have HF := Lib.hid hf
  have H := Lib.hid h
  have HNl := Lib.hid hn
  clear hl hv hf hs hm h
  go_enter Try.func36, Try.ntmps36
  go_upto_region 1 with fail
  obtain ⟨A, hA⟩ : ∃ A, w.heap.size = A := ⟨_, rfl⟩
  generalize hW : w.alloc (.cells v 65) = W
  have HBA : Hid (Blk W A 65 v) := by show Blk _ _ _ _; rw [← hW, ← hA]; exact Blk.new _ _ _
  have HK : Hid (Keeps (fun _ => False) w W) := by show Keeps _ _ _; rw [← hW]; exact (Keeps.refl _ _).alloc _
  have HA := Lib.hid hA
  rw [hA]
  clear hA hW
  go_upto_region 6 with (first
    | (go_at_call 54; refine (HCH.out _).mono ?_; rintro e w2 ⟨rfl, hw2⟩; have hk2 : Keeps (fun _ => False) W w2 := (by rw [hw2]; exact (Keeps.refl _ _).alloc _); have HK2 := Lib.hid (HK.out.trans hk2); have HBA2 := Lib.hid (HBA.out.keeps hk2 id); clear hw2 hk2)
    | ((with_reducible refine ld_row HBA.out Try.underlying65 HZ.out ?_ ?_); rfl))
  clear HBA HK
  have hw1 : IntKind.u32.wrap (m : Int) = (m : Int) := IntWalk.u32_in _ (by omega)
  go_upto_region 7 with (first
    | (go_at_call 55; refine (HMN.out _).mono ?_; rintro e w3 ⟨rfl, hw3⟩; have hk3 : Keeps (fun _ => False) w2 w3 := (by rw [hw3]; exact (Keeps.refl _ _).alloc _); have HK3 := Lib.hid (HK2.out.trans hk3); have HBA3 := Lib.hid (HBA2.out.keeps hk3 id); have HW3 := Lib.hid (H.out.keeps HK3.out (fun _ _ h => h)); clear hw3 hk3 HK2 HBA2)
    | (go_at_call 9; refine (Iw.int g base v0 ys (m : Int) _ HW3.out (by have := HNl.out; omega) (by omega) (by omega)).mono ?_; rintro e w4 hp; obtain rfl := hp.1; have HP := Lib.hid hp; clear hp)
    | ((with_reducible refine ld_row HBA2.out Try.underlying65 HZ.out ?_ ?_); rfl))
  have HBA4 : Hid (Blk w4 A 65 v) := by
    obtain ⟨_, v', _, hk4, _⟩ := HP.out
    refine Lib.hid (HBA3.out.keeps hk4 ?_)
    rintro (e | e)
    · have := H.out.lt; have := HA.out; omega
    · have := (H.out.2.2.2.2.2.lt A e).2; have := HA.out; omega
  have HHas : Hid (Hav base g v0 (ys ++ (encInt ((mny l 256 : Nat) : Int) ++ bod l 0)) w w4) := by
    show Hav _ _ _ _ _ _
    rw [HM.out, show bod l 0 = [] from rfl, List.append_nil]
    exact Hav.next HW3.out ⟨HK3.out.none_, .inl rfl⟩ HP.out
  clear HP HBA3 HK3 HW3
  go_wp2_with ((with_reducible refine ld_row HBA4.out Try.underlying65 HZ.out ?_ ?_); rfl)
  clear HBA4
  go_loopw [6, 22] (fun nv i wr => ∃ d : Nat, d ≤ 256 ∧ nv = .int .i64 (nxt l d : Nat) ∧ i = .int .i64 (d : Int) ∧ Hid (Hav base g v0 (ys ++ (encInt ((mny l 256 : Nat) : Int) ++ bod l d)) w wr)) (fun _ i _ => 256 - (intOf i).toNat)
  case atStart => exact ⟨0, by omega, rfl, rfl, HHas⟩
  case round =>
    clear HHas
    obtain ⟨d, hd, rfl, rfl, HH⟩ := hrel
    have hnl := nxt_le l d
    obtain ⟨nx, hnx⟩ : ∃ nx, nxt l d = nx := ⟨_, rfl⟩
    rw [hnx] at hnl ⊢
    by_cases hlt : d < 256
    · obtain ⟨x, hx⟩ : ∃ x, l.getD d 0 = x := ⟨_, rfl⟩
      have hxb : 0 ≤ x ∧ x ≤ 4096 := by rw [← hx]; exact HF.out _ (getD_mem (by rw [HL.out]; exact hlt))
      have hgd : ∀ w, (Instr.index 65 (.agg v) (.int .i64 (d : Int))).run Try.prog w = .ok (.int .i64 x) w := run_idx 65 256 Try.underlying65 v .i64 d _ hlt (by rw [HG.out d hlt, hx])
      have hd1 : (d : Int) < 256 := by omega
      by_cases hp : 0 < x
      · have HN : Hid (nxt l (d + 1) = d + 1) := by show _ = _; rw [nxt, hx, if_pos hp]
        have HB : Hid (bod l (d + 1) = bod l d ++ (encInt (((d - nx : Nat) : Int)) ++ encInt x)) := by show _ = _; rw [bod, hx, if_pos hp, hnx]
        obtain ⟨q, hq⟩ : ∃ q, d - nx = q := ⟨_, rfl⟩
        rw [hq] at HB
        have hqi : (d : Int) - (nx : Int) = (q : Int) := by omega
        have hw2 : IntKind.u32.wrap (q : Int) = (q : Int) := IntWalk.u32_in _ (by omega)
        have hw3 : IntKind.u32.wrap x = x := IntWalk.u32_in _ (by omega)
        have hw4 : IntKind.i64.wrap (q : Int) = (q : Int) := IntWalk.i64_in _ (by omega)
        obtain ⟨z, hz⟩ : ∃ z, ys ++ (encInt ((mny l 256 : Nat) : Int) ++ bod l d) = z := ⟨_, rfl⟩
        have hzl : z.length ≤ 1000000 - 100 := by
          have h1 := (Ib.encInt_len ((mny l 256 : Nat) : Int)).2
          have h2 := bod_len l d
          have h3 := HNl.out
          rw [← hz]
          simp only [List.length_append]
          omega
        have hH := HH.out
        rw [hz] at hH
        obtain ⟨v1, hW1, hK1⟩ := hH
        have HW1 := Lib.hid hW1
        have HK1 := Lib.hid hK1
        have HZE : Hid (ys ++ (encInt ((mny l 256 : Nat) : Int) ++ bod l (d + 1)) = z ++ encInt (q : Int) ++ encInt x) := by show _ = _; rw [HB.out, ← hz]; simp only [List.append_assoc]
        have hel := (Ib.encInt_len (q : Int)).2
        clear hx hnx hq hz hW1 hK1 HH
        go_wp2_with (first
          | (have H1 := HW1; go_at_call 9; refine (Iw.int g base v1 z (q : Int) _ H1.out (by omega) (by omega) (by omega)).mono ?_; rintro e w5 hp5; obtain rfl := hp5.1; have HH5 := Lib.hid (Hav.next HW1.out HK1.out hp5); obtain ⟨v5, hW5, hK5⟩ := HH5.out; have HW5 := Lib.hid hW5; have HK5 := Lib.hid hK5; clear hp5 HW1 HK1 H1 hW5 hK5 HH5)
          | (have H1 := HW5; go_at_call 9; refine (Iw.int g base v5 (z ++ encInt (q : Int)) x _ H1.out (by simp only [List.length_append]; omega) (by omega) (by omega)).mono ?_; rintro e w6 hp6; obtain rfl := hp6.1; have HH6 := Lib.hid (Hav.next HW5.out HK5.out hp6); clear hp6 HW5 HK5 H1))
        exact ⟨⟨d + 1, by omega, by rw [HN.out]; go_num, by go_num, by rw [HZE.out]; exact HH6⟩, by simp [intOf]; omega⟩
      · have HN : Hid (nxt l (d + 1) = nx) := by show _ = _; rw [nxt, hx, if_neg hp, hnx]
        have HB : Hid (bod l (d + 1) = bod l d) := by show _ = _; rw [bod, hx, if_neg hp]
        clear hx hnx
        go_wp2_with fail
        exact ⟨⟨d + 1, by omega, by rw [HN.out], by go_num, by rw [HB.out]; exact HH⟩, by simp [intOf]; omega⟩
    · obtain rfl : d = 256 := by omega
      clear hnx
      go_wp2_with fail
      go_ret
      exact ⟨rfl, HH.out⟩
set_option maxRecDepth 100000 in
theorem hfput (g base : Nat) (v0 : Value) (ys : List Int) (f : List Nat) (w0 w : World) (h : Hav base g v0 ys w0 w) (hn : ys.length + 16 ≤ 1000000) (hf : f.length = 4) (hb : ∀ x ∈ f, x < 4294967296) :
    Calls Try.prog 14 #[.agg (us f), .pointer (some ⟨g, 0, none⟩)] w fun r w' => r = .returned (.tuple #[]) ∧ Hav base g v0 (ys ++ wb f) w0 w' := by
  have H := Lib.hid h
  have HN := Lib.hid hn
  have HF := Lib.hid hf
  have HB := Lib.hid hb
  have HUI := Lib.hid (four_size hf)
  obtain ⟨U, hU⟩ : ∃ U, us f = U := ⟨_, rfl⟩
  rw [hU] at HUI ⊢
  have HU := Lib.hid hU
  clear h hn hf hb hU
  go_enter Try.func14, Try.ntmps14
  go_upto_region 1 with fail
  have HB2 := Lib.hid (Blk.new w 44 U)
  have HH := Lib.hid (hav_next H.out ((Keeps.refl _ _).alloc (.cells U 44)))
  generalize w.alloc (.cells U 44) = W at HB2 HH ⊢
  generalize w.heap.size = B at HB2 ⊢
  clear H
  go_wp2_with ((with_reducible refine ld_row HB2.out Try.underlying44 HUI.out ?_ ?_); rfl)
  go_loopw [5, 9] (fun _ i wr => ∃ d : Nat, i = .int .i64 (d : Int) ∧ d ≤ 4 ∧ Hid (Hav base g v0 (ys ++ wb (f.take d)) w0 wr)) (fun _ i _ => 4 - (intOf i).toNat)
  case atStart => exact ⟨0, rfl, by omega, by show Hav _ _ _ _ _ _; simpa [wb] using HH.out⟩
  case round =>
    clear HH
    obtain ⟨d, rfl, hd, HH⟩ := hrel
    by_cases hlt : d < 4
    · obtain ⟨n, hn⟩ : ∃ n, f.getD d 0 = n := ⟨_, rfl⟩
      have hdf : d < f.length := by rw [HF.out]; exact hlt
      have hnb : n < 4294967296 := by rw [← hn]; exact HB.out _ (memD hdf)
      have hix := run_idx4 U .i64 d (.int .u32 (n : Int)) hlt (by rw [← HU.out, us_get hdf, hn])
      have hd1 : (d : Int) < 4 := by omega
      have HWD := Lib.hid (hword g base v0 (ys ++ wb (f.take d)) (n : Int) w0 wr HH.out (by have := HN.out; rw [List.length_append, wb_len, List.length_take]; omega) (by omega) (by omega))
      have HNX : Hid (ys ++ wb (f.take (d + 1)) = ys ++ wb (f.take d) ++ Ww.lows (n : Int) 4) := by
        show _ = _
        rw [take_nat hdf, hn, wb_snoc, List.append_assoc]
      clear hn hdf hnb
      go_wp2_with (
        go_at_call 37
        refine HWD.out.mono ?_
        rintro e w1 ⟨rfl, hh⟩
        have HH1 := Lib.hid hh
        clear hh)
      exact ⟨⟨d + 1, by go_num, by omega, by rw [HNX.out]; exact HH1⟩, by simp [intOf]; omega⟩
    · obtain rfl : d = 4 := by omega
      have hge : ¬ ((4 : Int) < 4) := by omega
      have HE : Hid (Hav base g v0 (ys ++ wb f) w0 wr) := by
        have h1 := HH.out
        rw [List.take_of_length_le (by rw [HF.out]; exact Nat.le_refl _)] at h1
        exact h1
      go_wp2
      go_end0
      exact ⟨rfl, HE.out⟩
end Go.Proofs.Ytnanmenoemajfaa.Rs
