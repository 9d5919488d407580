/- The words of entries, by the statements' own function: the call. -/
import Derived.Test.YtaamnbminmcbpaaDoorHufWord
namespace Go.Proofs.YtaamnbminmcbpaaDoor.Hw
open Go.RowKit Go.Shelf Go.Lib Go.Sort Go.Proofs.YtaamnbminmcbpaaDoor.Gen Go.Proofs.YtaamnbminmcbpaaDoor.Mp Go.Proofs.YtaamnbminmcbpaaDoor.Hr Go.Proofs.YtaamnbminmcbpaaDoor.Hp Go.Proofs.YtaamnbminmcbpaaDoor.Hm Go.Proofs.YtaamnbminmcbpaaDoor.Hg Go.Proofs.YtaamnbminmcbpaaDoor.So Go.Proofs.YtaamnbminmcbpaaDoor.Hs Go.Proofs.YtaamnbminmcbpaaDoor.Hf Go.Proofs.YtaamnbminmcbpaaDoor.Hz Go.Proofs.YtaamnbminmcbpaaDoor.Ha Go.Proofs.YtaamnbminmcbpaaDoor.Ln Go.Proofs.YtaamnbminmcbpaaDoor.Bp

theorem own_cap {w : World} {base : Nat} {e : TypeId} {size n c : Nat} {A : Option Addr} {xs : List Value} (h : w.ownsRow base e size (.slice A n c) n xs) : n ≤ c := by
  obtain ⟨_, _, hv, hc⟩ := own_form h
  injection hv with _ _ h3
  subst h3
  exact hc
/-- What next holds at the head of a size's round. -/
def headOf (L : List (Int × Nat)) : Nat → Nat
  | 0 => 0
  | s + 1 => nextOf (line L (s + 1)) s
theorem line_small (L : List (Int × Nat)) (s : Nat) : ∀ p ∈ line L (s + 1), p.2 ≤ s := fun p hp => by have := (line_mem.1 hp).2; omega
theorem head_twice (L : List (Int × Nat)) {s : Nat} (hs : s ≤ 20) : headOf L s * 2 = nextOf (laid L s 0) s := by
  rw [laid_zero]
  cases s with
  | zero => simp [headOf, line, nextOf, posOf]
  | succ s => rw [headOf, next_step (by omega) (line_small L s)]
theorem head_le (L : List (Int × Nat)) {s : Nat} (hs : s ≤ 21) (hf : posOf (line L s) ≤ 2 ^ 20) : headOf L s ≤ 1048576 := by
  cases s with
  | zero => simp [headOf]
  | succ s =>
    have h1 := next_le (s := s) (by omega) (line_small L s) hf
    have h2 : 2 ^ s ≤ 2 ^ 20 := Nat.pow_le_pow_right (by omega) (by omega)
    rw [headOf]
    omega
theorem head_laid (L : List (Int × Nat)) (s : Nat) : headOf L (s + 1) = nextOf (laid L s L.length) s := by rw [laid_all, headOf]
theorem laid_small (L : List (Int × Nat)) (s i : Nat) : ∀ p ∈ laid L s i, p.2 ≤ s := fun p hp => (laid_mem hp).2

set_option maxHeartbeats 4000000 in
set_option maxRecDepth 4000 in
theorem words_ (A : Option Addr) (n c : Nat) (L : List (Int × Nat)) (w : World) (hL : EntsAt w A L) (hn : L.length = n) (hs : n ≤ 1000) (hz : ∀ p ∈ L, p.2 ≤ 20) (hx : ∀ p ∈ L, (Lit.int .i64 p.1).wf = true) (hd : (L.map (·.1)).Nodup) :
    Calls Tryd.prog 7 #[.slice A n c] w fun r w' => Keeps (fun _ => False) w w' ∧ ((2 ^ 20 < posOf L ∧ r = .returned (.map none)) ∨ (posOf L ≤ 2 ^ 20 ∧ ∃ bm, r = .returned (.map (some bm)) ∧ w.heap.size ≤ bm ∧ ∃ m, IsM Tryd.prog 3 w' bm m ∧ Fa (Wrd w' bm) (wordsOf L) m)) := by
  have hmm := @run_makeMap Tryd.prog
  have HL := Lib.hid hL
  have HN := Lib.hid hn
  have HZ := Lib.hid hz
  have HX := Lib.hid hx
  have HD := Lib.hid hd
  clear hL hn hz hx hd
  go_enter Tryd.func7, Tryd.ntmps7
  have HM0 := Lib.hid (IsM.new Tryd.prog 3 w)
  have HK0 := Lib.hid ((Keeps.refl (fun _ => False) w).alloc (.map #[] 0))
  go_wp2
  obtain ⟨bm, hbm⟩ : ∃ bm, bm = w.heap.size := ⟨_, rfl⟩
  rw [← hbm] at HM0 ⊢
  have HBM := Lib.hid hbm
  clear hbm
  go_loopw [4, 5] (fun nx sz wr => ∃ s : Nat, s ≤ 21 ∧ nx = .int .u32 ((headOf L s : Nat) : Int) ∧ sz = .int .i64 (s : Int) ∧ Wst w wr bm (line L s)) (fun _ sz _ => 21 - (intOf sz).toNat)
  case atStart => exact ⟨0, by omega, rfl, rfl, ⟨⟨[], HM0.out, by simp [line, asg, Fa]⟩, HK0.out, by simp [line, posOf]⟩⟩
  case round =>
    clear HM0 HK0
    obtain ⟨s, hs21, rfl, rfl, hst⟩ := hrel
    have HT := Lib.hid hst
    have hhd := head_le L hs21 hst.fits
    clear hst
    by_cases hlt : s ≤ 20
    · have HTW := Lib.hid (head_twice L hlt)
      obtain ⟨hh, hhh⟩ : ∃ hh, hh = headOf L s := ⟨_, rfl⟩
      rw [← hhh] at HTW hhd ⊢
      have hwm : IntKind.u32.wrap ((hh : Int) * 2) = ((hh * 2 : Nat) : Int) := by simp [IntKind.wrap, IntKind.bits, IntKind.signed]; omega
      have hsi : (s : Int) ≤ 20 := by omega
      have HT0 : Hid (Wst w wr bm (laid L s 0)) := by show Wst w wr bm (laid L s 0); rw [laid_zero]; exact HT.out
      clear hhh HT
      go_wp2
      go_loopw [4, 17] (fun nx i wx => ∃ d : Nat, d ≤ n ∧ nx = .int .u32 ((nextOf (laid L s d) s : Nat) : Int) ∧ i = .int .i64 (d : Int) ∧ Wst w wx bm (laid L s d)) (fun _ i _ => n - (intOf i).toNat)
      case atStart => exact ⟨0, by omega, by rw [← HTW.out]; go_num, rfl, HT0.out⟩
      case round =>
        clear HT0
        obtain ⟨d, hd, rfl, rfl, hst⟩ := hrel
        have HT := Lib.hid hst
        clear hst
        have hnl := next_le hlt (laid_small L s d) HT.out.fits
        have hp20 : 2 ^ s ≤ 2 ^ 20 := Nat.pow_le_pow_right (by omega) hlt
        by_cases hdn : d < n
        · have hdl : d < L.length := by rw [HN.out]; exact hdn
          obtain ⟨b, o, rfl, _, h0, h1⟩ := EntsAt.item (w := wr) (l := L) (RowAt.keeps HL.out HT.out.keeps (fun _ _ _ => id)) hdl
          have hmem : L.getD d (0, 0) ∈ L := by rw [List.getD_eq_getElem?_getD, List.getElem?_eq_getElem hdl]; simp
          have HHIT := Lib.hid (laid_hit (L := L) (s := s) hdl)
          have HMIS := Lib.hid (laid_miss (L := L) (s := s) hdl)
          have HNEW := Lib.hid (laid_new (L := L) (s := s) HD.out hdl)
          have hzz := HZ.out _ hmem
          have HWX := Lib.hid (HX.out _ hmem)
          have HLE : Hid ((L.getD d (0, 0)).2 = s → posOf (laid L s d) + 2 ^ (20 - s) ≤ posOf L) := by
            intro e
            have h2 := laid_le (L := L) (s := s) (i := d + 1)
            rw [HHIT.out e, posOf_app, posOf_one, e] at h2
            exact h2
          obtain ⟨⟨x, z⟩, hxz⟩ : ∃ q, q = L.getD d (0, 0) := ⟨_, rfl⟩
          rw [← hxz] at h0 h1 hzz HHIT HMIS HNEW HWX HLE
          simp only at h0 h1 hzz HHIT HMIS HNEW HWX HLE
          have HTA := Lib.hid (HT.out.next ((Keeps.refl (fun _ => False) wr).alloc (.cells #[.int .i64 x, .int .i64 (z : Int)] 26)))
          have hd0 : (0 : Int) ≤ (d : Int) := by omega
          have hd1 : (d : Int) < (n : Int) := by omega
          clear hmem hxz hdl hdn
          obtain ⟨nx, hnx⟩ : ∃ nx, nx = nextOf (laid L s d) s := ⟨_, rfl⟩
          rw [← hnx] at hnl ⊢
          have HNX := Lib.hid hnx
          clear hnx
          by_cases hzs : z = s
          · subst hzs
            have hpz : 2 ^ z < 4294967296 := Nat.lt_of_le_of_lt hp20 (by decide)
            have hpw : IntKind.u32.wrap ((2 : Int) ^ z) = ((2 ^ z : Nat) : Int) := by
              have e : ((2 : Int) ^ z) = ((2 ^ z : Nat) : Int) := by simp
              rw [e]
              generalize 2 ^ z = q at hpz ⊢
              simp [IntKind.wrap, IntKind.bits, IntKind.signed]
              omega
            by_cases hfit : nx < 2 ^ z
            · have hge : ¬ (((2 ^ z : Nat) : Int) ≤ (nx : Int)) := by omega
              have hnw : nx < 4294967296 := by omega
              have HNI : Hid (IntKind.u32.wrap ((nx : Int) + 1) = ((nx + 1 : Nat) : Int)) := by
                have : nx + 1 < 4294967296 := by omega
                show _ = _
                simp [IntKind.wrap, IntKind.bits, IntKind.signed]
                omega
              go_upto_region 13 with fail
              go_cut [17] from 29 to 34 (fun sl wx => sl = .int .i64 (d : Int) ∧ Wst w wx bm (laid L z d ++ [(x, z)]))
              case first =>
                go_region_with (
                  go_at_call 19
                  refine (Bq.bits_ nx z _ hnw (by omega)).mono ?_
                  rintro e w2 ⟨A2, c2, rfl, hv2, hk2⟩
                  have HK2 : Hid (Keeps (fun _ => False) (wr.alloc (.cells #[.int .i64 x, .int .i64 (z : Int)] 26)) w2) := Lib.hid hk2.of_drew
                  have hc2 : w2.cell? ⟨wr.heap.size, 0, none⟩ = some (.int .i64 x) := ((Blk.new wr 26 #[.int .i64 x, .int .i64 (z : Int)]).keeps HK2.out id).cell 0
                  have HT2 := Lib.hid (HTA.out.next HK2.out)
                  obtain ⟨m2, hm2, hf2⟩ := HT2.out.ex
                  have hl2 : m2.length ≤ 1000000 := by
                    have h1 := hf2.len
                    rw [asg_len] at h1
                    have h2 := laid_len (L := L) (s := z) (i := d)
                    rw [HN.out] at h2
                    omega
                  obtain ⟨w4, hrun, hm4, hk4⟩ := update_run hm2 int_key Tryd.underlying32 hl2 (val := .slice A2 z c2) (key_i x HWX.out)
                  have HST := Lib.hid (Wst.store hm2 hf2 HT2.out.keeps (by rw [HBM.out]; exact Nat.le_refl _) HWX.out (HNEW.out rfl) (laid_small L z d) hzz ((next_fits hzz (laid_small L z d)).1 (by rw [← HNX.out]; exact hfit)) (by rw [← HNX.out]; exact Lies.of_own hv2) (own_cap hv2) (fun b o e hb => own_ne_map hv2 hm2 (by subst e; subst hb; rfl)) hm4 hk4)
                  clear hk2 HK2 HT2 hm2 hf2 hl2 hm4 hk4 hv2)
                all_goals go_wp2_with fail
                all_goals go_meet
                all_goals exact ⟨rfl, HST.out⟩
              case rest =>
                obtain ⟨rfl, hst⟩ := hcut
                have HST := Lib.hid hst
                clear hst
                go_wp2
                refine ⟨⟨d + 1, by omega, ?_, by go_num, ?_⟩, by simp [intOf]; omega⟩
                · rw [HHIT.out rfl, next_more (laid_small L z d), ← HNX.out]
                  go_num
                · rw [HHIT.out rfl]
                  exact HST.out
            · have hge : (2 : Int) ^ z ≤ (nx : Int) := by
                have e : ((2 : Int) ^ z) = ((2 ^ z : Nat) : Int) := by simp
                rw [e]
                omega
              have hgb : decide ((2 : Int) ^ z ≤ (nx : Int)) = true := by simpa using hge
              have HLF := Lib.hid (HLE.out rfl)
              clear HLE HHIT HMIS HNEW
              go_wp2
              go_ret
              refine ⟨HTA.out.keeps, .inl ⟨?_, rfl⟩⟩
              have h1 := HLF.out
              have h2 : ¬ posOf (laid L z d) < 2 ^ 20 := fun h => hfit (by rw [HNX.out]; exact (next_fits hzz (laid_small L z d)).2 h)
              have h3 := Nat.two_pow_pos (20 - z)
              omega
          · have hzi : ¬ ((z : Int) = (s : Int)) := by omega
            have hzb : ((z : Int) == (s : Int)) = false := by simpa using hzi
            go_wp2
            refine ⟨⟨d + 1, by omega, by rw [HMIS.out hzs, HNX.out], by go_num, ?_⟩, by simp [intOf]; omega⟩
            rw [HMIS.out hzs]
            exact HTA.out
        · obtain rfl : d = n := by omega
          have hge : ¬ ((d : Int) < (d : Int)) := by omega
          clear hdn
          go_wp2
          refine ⟨⟨s + 1, by omega, by rw [head_laid, HN.out], by go_num, ?_⟩, by simp [intOf]; omega⟩
          have := HT.out
          rw [← HN.out, laid_all] at this
          exact this
    · obtain rfl : s = 21 := by omega
      clear hlt
      go_wp2
      go_ret
      refine ⟨HT.out.keeps, .inr ⟨?_, bm, rfl, by rw [HBM.out]; exact Nat.le_refl _, HT.out.ex⟩⟩
      have := HT.out.fits
      rw [posOf_perm (line_perm HZ.out)] at this
      exact this
end Go.Proofs.YtaamnbminmcbpaaDoor.Hw
