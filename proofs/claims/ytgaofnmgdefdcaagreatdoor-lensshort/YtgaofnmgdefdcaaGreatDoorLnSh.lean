/- The walk of LensShort: any numbers, any cut. The condition: strconv's table of tens reads as its text lays it. -/
import Derived.Test.YtgaofnmgdefdcaaGreatDoorJLnShTAnyInv
namespace Go.Proofs.YtgaofnmgdefdcaaGreatDoor.Le
open Go.RowKit Go.Proofs.YtgaofnmgdefdcaaGreatDoor.Gen Go.Proofs.YtgaofnmgdefdcaaGreatDoor.Hu Go.Proofs.YtgaofnmgdefdcaaGreatDoor.Mp Go.Proofs.YtgaofnmgdefdcaaGreatDoor.Cm Go.Proofs.YtgaofnmgdefdcaaGreatDoor.Hr Go.Proofs.YtgaofnmgdefdcaaGreatDoor.Hn Go.Proofs.YtgaofnmgdefdcaaGreatDoor.Hk Go.Proofs.YtgaofnmgdefdcaaGreatDoor.Ln Go.Proofs.YtgaofnmgdefdcaaGreatDoor.Ds Go.Proofs.YtgaofnmgdefdcaaGreatDoor.Ky Go.Proofs.YtgaofnmgdefdcaaGreatDoor.Wr Go.Proofs.YtgaofnmgdefdcaaGreatDoor.Ir Go.Proofs.YtgaofnmgdefdcaaGreatDoor.Ib Go.Proofs.YtgaofnmgdefdcaaGreatDoor.Br Go.Proofs.YtgaofnmgdefdcaaGreatDoor.Bp Go.Proofs.YtgaofnmgdefdcaaGreatDoor.Qh Go.Proofs.YtgaofnmgdefdcaaGreatDoor.Qs Go.Proofs.YtgaofnmgdefdcaaGreatDoor.Qf Go.Proofs.YtgaofnmgdefdcaaGreatDoor.Qc Go.Proofs.YtgaofnmgdefdcaaGreatDoor.It Go.Proofs.YtgaofnmgdefdcaaGreatDoor.Qi Go.Proofs.YtgaofnmgdefdcaaGreatDoor.Qu

theorem rem_of {z : Int} {n : Nat} (h : 0 ≤ z) (hn : 0 < n) : ∃ q : Nat, z.tmod (n : Int) = (q : Int) ∧ q < n := by
  have h1 := Int.emod_nonneg z (show (n : Int) ≠ 0 by omega)
  have h2 := Int.emod_lt_of_pos z (show (0 : Int) < n by omega)
  exact ⟨(z % (n : Int)).toNat, by rw [Int.tmod_eq_emod_of_nonneg h]; omega, by omega⟩

theorem own_ne_map {P : Program} {K e : TypeId} {M b base n sz : Nat} {kl : Nat → Lit} {val : Nat → Option Value} {w : World} {v : Value} {xs : List Value} (h : w.ownsRow base e sz v n xs) (hm : IsF P K M kl w b val) : ∀ g, v.ownBlock = some g → ¬ g = b := by
  intro g hg
  rcases h.2 with ⟨rfl, _⟩ | ⟨g', cap, cur, rfl, _, hh, _⟩
  · simp [Value.ownBlock] at hg
  · have : g' = g := by simpa [Value.ownBlock] using hg
    subst this
    exact hm.ne_blk hh
theorem run_cut_to {P : Program} (t e : TypeId) (A : Option Addr) (n c m : Nat) (kh : IntKind) (ht : P.underlying t = some (.slice e)) (he : ∀ w, (sizeOf e).run P w = .ok 1 w) (hk : m ≤ c) (w : World) :
    (Instr.slice t (.slice A n c) none (some (.int kh m)) none).run P w = .ok (.slice (cutAt A c 0) m c) w := by
  have hel : P.elem t = e := by simp [Program.elem, ht]
  rw [run_slice_h (P := P) w t A n c (by rw [hel]; exact ht) kh m (by omega) (by omega), hel, he]
  simp only [Result.andThen, sliced, Int.toNat_natCast]
  rfl
theorem own_room {w : World} {base n c sz : Nat} {e : TypeId} {A : Option Addr} {xs : List Value} (h : w.ownsRow base e sz (.slice A n c) n xs) : n ≤ c := by
  obtain ⟨A', c', h1, h2⟩ := own_form h
  injection h1 with _ _ h3
  omega
/-- A Lens of a row and of one block. -/
theorem new_one (A A2 : Option Addr) (n c n2 c2 mb : Nat) (xs l : List Int) (w : World) (hx : xs.length = n) (hl : Lies w A xs) (hn : n ≤ 1000000) (hb : ∀ x ∈ xs, 0 ≤ x ∧ x < 256) (hln : l.length = n2) (hl2 : Lies w A2 l) (hn2 : n2 ≤ 1000000) (hb2 : ∀ x ∈ l, 0 ≤ x ∧ x < 256)
    (hm : IsF Tryz.prog 3 60001 ikl w mb (putF (fun _ => none) 5 (.slice A2 n2 c2))) :
    Calls Tryz.prog 22 #[.slice A n c, .map (some mb)] w fun r w' => ∃ g F, r = .returned (.pointer (some ⟨g, 0, none⟩)) ∧ Lz w.heap.size g F ⟨xs, 0, false⟩ (oneG 5 ⟨l, 0, 0⟩) 0 0 w' ∧ Keeps (fun _ => False) w w' := by
  have H := new_m A n c xs mb (oneV 5 l) (fun _ => A2) (fun _ => c2) w hx hl hn hb (one_map hln hm) (fun i l' h => by
    unfold oneV at h
    split at h
    · injection h with h
      subst h
      exact ⟨hl2, by omega, hb2⟩
    · cases h) (fun i hi => if_neg (by omega))
  rw [oneV_G] at H
  exact H
theorem take_getD (xs : List Int) {i k : Nat} (h : i < k) : (xs.take k).getD i 0 = xs.getD i 0 := by
  simp only [List.getD_eq_getElem?_getD]
  rw [List.getElem?_take_of_lt h]
theorem lies_upto {w : World} {A : Option Addr} {xs : List Int} (h : Lies w A xs) (c j : Nat) (hc : xs.length ≤ c) (hj : j ≤ xs.length) : Lies w (cutAt A c 0) (xs.take j) := by
  have := h.cutAt c 0 j hc (by omega)
  simpa using this

set_option maxHeartbeats 16000000 in
set_option maxRecDepth 100000 in
theorem short_ (A0 : Option Addr) (n0 c0 b0 o0 : Nat) (f : Nat → Int) (cut : Int) (w : World) (ht : Tab w.heap.size w) (h0 : 0 < n0 → A0 = some ⟨b0, o0, none⟩ ∧ b0 < w.heap.size)
    (h0c : ∀ i, i < n0 → w.cell? ⟨b0, o0 + i, none⟩ = some (.int .i32 (f i))) (hfr : ∀ i, -2147483648 ≤ f i ∧ f i ≤ 2147483647) (hcu : 0 ≤ cut ∧ cut < 256) :
    Calls Tryz.prog 7 #[.slice A0 n0 c0, .int .u8 cut] w fun r w' => r = .returned (.bool true) ∧ Keeps (fun _ => False) w w' := by
  have hmm := @run_makeMap Tryz.prog
  have HT := Lib.hid ht
  have HAW := Lib.hid (awake w ht)
  have H0 := Lib.hid h0
  have H0C := Lib.hid h0c
  have HFR := Lib.hid hfr
  obtain ⟨v, hv⟩ : ∃ v : Nat → Int, v = fun i => max (f i) (-2147483647) := ⟨_, rfl⟩
  obtain ⟨u, hu⟩ : ∃ u : Nat → Int, u = fun i => f i % 256 := ⟨_, rfl⟩
  have HV : Hid (∀ i, max (f i) (-2147483647) = v i) := fun i => by rw [hv]
  have HU : Hid (∀ i, f i % 256 = u i) := fun i => by rw [hu]
  have HVR : Hid (∀ i, -2147483647 ≤ v i ∧ v i ≤ 2147483647) := fun i => by have := hfr i; rw [hv]; show _ ≤ max _ _ ∧ max _ _ ≤ _; omega
  have HUR : Hid (∀ i, 0 ≤ u i ∧ u i < 256) := fun i => by rw [hu]; show 0 ≤ f i % 256 ∧ f i % 256 < 256; omega
  clear ht h0 h0c hfr hv hu
  go_enter Tryz.func7, Tryz.ntmps7
  go_wp2_with fail
  refine HAW.out.mono ?_
  rintro r w1 ⟨rfl, hk1⟩
  have HK1 := Lib.hid hk1
  have HT1 := Lib.hid (Tab_rise (HT.out.more (Nat.le_refl _) hk1) hk1.size)
  have HS1 : Hid (w.heap.size ≤ w1.heap.size) := hk1.size
  clear hk1 HAW HT
  by_cases hn0 : (40 : Int) < (n0 : Int)
  · go_wp2
    go_ret
    exact ⟨rfl, HK1.out⟩
  by_cases hn1 : n0 = 0
  · subst hn1
    go_wp2
    go_ret
    exact ⟨rfl, HK1.out⟩
  have hn1e : ((n0 : Int) == 0) = false := by simp; omega
  have HNN : Hid (n0 ≤ 40 ∧ 1 ≤ n0) := by show _ ∧ _; omega
  go_wp2_with fail
  refine (new_q w1.heap.size w1 (Nat.le_refl _)).mono ?_
  rintro r w2 ⟨rfl, hq2, hs2⟩
  obtain ⟨q, hq⟩ : ∃ q, q = w1.heap.size := ⟨_, rfl⟩
  obtain ⟨bd, hbd⟩ : ∃ bd, bd = w2.heap.size := ⟨_, rfl⟩
  obtain ⟨bf, hbf⟩ : ∃ bf, bf = bd + 1 := ⟨_, rfl⟩
  obtain ⟨W3, hW3⟩ : ∃ W3, W3 = (w2.alloc (.cells #[.int .u8 1, .int .i64 5, .slice none 0 0, .int .i64 0, .int .i64 0] 43)).alloc (.cells #[.int .u8 6, .int .i64 0, .slice none 0 0, .int .i64 0, .int .i64 8] 43) := ⟨_, rfl⟩
  have HSH : Hid (Sh w1 q bd bf v u 0 0 W3) := by
    have hk3 : Keeps (fun _ => False) w2 W3 := by rw [hW3]; exact ((Keeps.refl _ _).alloc _).alloc _
    have hlt := hq2.lt _ rfl
    have hq3 : Ql (· = q) w1.heap.size q [] (fun _ => none) 0 w2 := by rw [hq]; exact hq2
    refine ⟨⟨(· = q), (fun _ => none), 0, hq3.more hk3, by show ¬ bd = q; omega, by show ¬ bf = q; omega, by omega, rfl, fun _ _ => rfl⟩, ?_, ?_, ((hs2.keeps.trans hk3).mono fun _ _ hf => hf.elim)⟩
    · rw [hW3, hbd]
      exact (Blk.new _ _ _).alloc _
    · have e : (w2.alloc (.cells #[.int .u8 1, .int .i64 5, .slice none 0 0, .int .i64 0, .int .i64 0] 43)).heap.size = w2.heap.size + 1 := by simp
      rw [hW3, hbf, hbd, ← e]
      exact Blk.new _ _ _
  go_upto_region 7 with fail
  rw [← hq, ← hbd, ← hbf, ← hW3]
  clear hq hbd hbf hW3 hq2 hs2 hn0 hn1 hn1e
  go_wp2
  go_loopw [33] (fun iv wr => ∃ j : Nat, iv = .int .i64 (j : Int) ∧ j ≤ n0 ∧ Hid (Sh w1 q bd bf v u j j wr)) (fun iv _ => n0 - (intOf iv).toNat)
  case atStart => exact ⟨0, rfl, by omega, HSH⟩
  case round =>
    obtain ⟨j, rfl, hj, HS⟩ := hrel
    clear HSH
    by_cases hlt : j < n0
    · obtain ⟨hA0, hb0⟩ := H0.out (by omega)
      subst hA0
      have hcr : wr.cell? ⟨b0, o0 + j, none⟩ = some (.int .i32 (f j)) := (HS.out.keeps.cell (p := ⟨b0, o0 + j, none⟩) (by have := HS1.out; show b0 < _; omega) (by have := HS1.out; show ¬ w1.heap.size ≤ b0; omega)).trans ((HK1.out.cell (p := ⟨b0, o0 + j, none⟩) hb0 id).trans (H0C.out j hlt))
      obtain ⟨x, hx⟩ : ∃ x, f j = x := ⟨_, rfl⟩
      have hxr := HFR.out j
      have hxv := HV.out j
      have hxu := HU.out j
      rw [hx] at hcr hxr hxv hxu
      have hwx : IntKind.i64.wrap x = x := IntWalk.i64_in _ (by omega)
      obtain ⟨y, hy⟩ : ∃ y, u j = y := ⟨_, rfl⟩
      have hyr := HUR.out j
      rw [hy] at hxu hyr
      have hwu : IntKind.u8.wrap x = y := by rw [IntKind.wrap_u8]; exact hxu
      have hwu2 : IntKind.i64.wrap y = y := IntWalk.i64_in _ (by omega)
      have hj0 : (0 : Int) ≤ (j : Int) := by omega
      have hj1 : (j : Int) < (n0 : Int) := by omega
      have hjw : IntKind.i64.wrap ((j : Int) + 1) = (j : Int) + 1 := IntWalk.i64_in _ (by have := HNN.out; omega)
      have rmx := fun (ts : Array TypeId) (t : TypeId) w => run_mx (P := Tryz.prog) ts t x (-2147483647) (v j) hxv w
      have d0 := HS.out.d.cell 0
      have d1 := HS.out.d.cell 1
      have d2 := HS.out.d.cell 2
      have d3 := HS.out.d.cell 3
      have d4 := HS.out.d.cell 4
      simp only [List.getElem?_toArray, List.getElem?_cons_zero, List.getElem?_cons_succ] at d0 d1 d2 d3 d4
      have HC1 := Lib.hid (HS.out.put_d HT1.out (by have := HNN.out; omega) (by have := HNN.out; omega) (HVR.out j))
      clear hx hxr hb0 hxv hxu
      go_wp2_with fail
      refine HC1.out.mono ?_
      rintro r w5 ⟨rfl, hm5⟩
      have HM5 := Lib.hid hm5
      have HC2 := Lib.hid (hm5.put_f HT1.out (by have := HNN.out; omega) (by have := HNN.out; omega) (HUR.out j))
      have e0 := hm5.f.cell 0
      have e1 := hm5.f.cell 1
      have e2 := hm5.f.cell 2
      have e3 := hm5.f.cell 3
      have e4 := hm5.f.cell 4
      simp only [List.getElem?_toArray, List.getElem?_cons_zero, List.getElem?_cons_succ] at e0 e1 e2 e3 e4
      clear hm5 HC1 d0 d1 d2 d3 d4
      rw [hy] at HC2
      go_wp2_with fail
      refine HC2.out.mono ?_
      rintro r w6 ⟨rfl, hm6⟩
      have HM6 := Lib.hid hm6
      clear hm6 HC2
      go_wp2
      exact ⟨⟨j + 1, by go_num, by omega, HM6⟩, by simp [intOf]; omega⟩
    · obtain rfl : j = n0 := by omega
      obtain ⟨⟨F, G, N, h1, h2, h3, h4, h5, h6⟩, hd, hf, hk⟩ := HS.out
      obtain ⟨ys, hys⟩ : ∃ ys, cat v j = ys := ⟨_, rfl⟩
      obtain ⟨m, hm⟩ : ∃ m, ys.length = m := ⟨_, rfl⟩
      have e1 : hadI G 5 = ys := by
        unfold hadI
        rw [if_pos (by omega), had_cont, ← hys, ← h5]
        rfl
      have HBL := Lib.hid (block_ w1.heap.size q F _ G N 5 m wr h1 (i64_wf (by omega)) (by rw [e1, hm]))
      rw [e1] at HBL
      have HRW := Lib.hid (fun W (k : Keeps (fun _ => False) wr W) => row_ w1.heap.size q F _ G N W (h1.more k) (by rw [ofB_len, us_len]; have := HNN.out; omega))
      have HKL : Hid (∀ k, k < m → k ≤ (cat v j).length) := fun k hk => by rw [hys, hm]; omega
      have HML : Hid (j ≤ m ∧ m ≤ 200) := by
        have := cat_len v j
        rw [hys, hm] at this
        have := HNN.out
        show _ ∧ _
        omega
      have HYS := Lib.hid hys
      have HYM := Lib.hid hm
      clear h1 h2 h3 h4 h5 h6 hd hf hk hys hm e1
      go_wp2_with fail
      refine HBL.out.mono ?_
      rintro r w4 ⟨Ab, cb, rfl, ho, hk4⟩
      have HO := Lib.hid ho
      have HK4 := Lib.hid hk4
      clear ho hk4 HBL
      obtain ⟨k, hrem, hkm⟩ := rem_of (n := m) hcu.1 (by have := HML.out; have := HNN.out; omega)
      obtain ⟨cc, hremc, hcm⟩ := rem_of (n := j) hcu.1 (by have := HNN.out; omega)
      have hcw : IntKind.i64.wrap cut = cut := IntWalk.i64_in _ (by omega)
      have hme : ¬ ((m : Int) = 0) := by have := HML.out; have := HNN.out; omega
      have hje : ¬ ((j : Int) = 0) := by have := HNN.out; omega
      have hmc := own_room HO.out
      have hml2 := HML.out
      have hje2 : ¬ j = 0 := by omega
      obtain ⟨Ak, hAk⟩ : ∃ x, cutAt Ab cb 0 = x := ⟨_, rfl⟩
      have HCK : Hid (∀ w, (Instr.slice 29 (.slice Ab m cb) none (some (.int .i64 (k : Int))) none).run Tryz.prog w = .ok (.slice Ak k cb) w) := fun w => by rw [← hAk]; exact run_cut_to 29 5 Ab m cb k .i64 Tryz.underlying29 Br.size_u8 (by omega) w
      have HLK : Hid (∀ W, Lies W Ab ys → Lies W Ak (ys.take k)) := fun W h => by rw [← hAk]; exact lies_upto h cb k (by have := HYM.out; omega) (by have := HYM.out; omega)
      have HTK : Hid ((ys.take k).length = k) := by show _ = _; rw [List.length_take, HYM.out]; omega
      have HYB : Hid (∀ x ∈ ys, 0 ≤ x ∧ x < 256) := by rw [← HYS.out]; exact cat_byte v (fun i => by have := HVR.out i; omega) j
      have HRU : Hid (∀ zs : List Int, IsPack (ofB (us u j)) (zs.map Int.toNat) → (∀ y ∈ zs, 0 ≤ y ∧ y < 256) → zs.length = j ∧ ∀ i, i < j → zs.getD i 0 = u i) := fun zs hp hz => row_us HUR.out hp hz
      clear hAk
      go_upto_region 15 with fail
      go_cut [12] from 61 to 68 (fun v12 wx => ∃ gx Fx Bx zs, v12 = .pointer (some ⟨gx, 0, none⟩) ∧ Hid (Keeps (fun _ => False) w4 wx ∧ Lz Bx gx Fx ⟨zs, 0, false⟩ (oneG 5 ⟨ys.take k, 0, 0⟩) 0 0 wx ∧ w4.heap.size ≤ Bx))
      case first =>
        refine wp_region_held_drew (S := fun w' => Keeps (fun _ => False) w4 w') (by kernel_rfl) ((Keeps.refl _ _).drewN 1) (fun hHeld => ?_)
        have hHeld2 : Keeps (fun _ => False) w4 w4.drew := hHeld
        clear hHeld
        generalize w4.drew = wd at hHeld2 ⊢
        have hHeld := hHeld2
        clear hHeld2
        refine wpAnyH_take (i := 0) (v := ?vz0x7) rfl (by kernel_rfl) (by kernel_rfl) (by kernel_rfl) (fun _ _ _ h => h) (Or.inl ⟨by rfl, ?yz0x7⟩) hHeld ?rz0x7
        case yz0x7 => (intro w' hSw; go_simp; try with_reducible rfl)
        simp only [Act.put, List.getElem_toArray, List.getElem_cons_succ, List.getElem_cons_zero, List.setIfInBounds_toArray, List.set_cons_zero, List.set_cons_succ]
        refine wpAnyH_take (i := 3) (v := ?vz3x8) rfl (by kernel_rfl) (by kernel_rfl) (by kernel_rfl) (fun _ _ _ h => h) (Or.inl ⟨by rfl, ?yz3x8⟩) hHeld ?rz3x8
        case yz3x8 => (intro w' hSw; go_simp; try with_reducible rfl)
        simp only [Act.put, List.getElem_toArray, List.getElem_cons_succ, List.getElem_cons_zero, List.setIfInBounds_toArray, List.set_cons_zero, List.set_cons_succ]
        refine wpAnyH_take (i := 4) (v := ?vz4x9) rfl (by kernel_rfl) (by kernel_rfl) (by kernel_rfl) (fun _ _ _ h => h) (Or.inl ⟨by rfl, ?yz4x9⟩) hHeld ?rz4x9
        case yz4x9 => (intro w' hSw; go_simp; try with_reducible rfl)
        simp only [Act.put, List.getElem_toArray, List.getElem_cons_succ, List.getElem_cons_zero, List.setIfInBounds_toArray, List.set_cons_zero, List.set_cons_succ]
        refine wpAnyH_take (i := 5) (v := ?vz5x10) rfl (by kernel_rfl) (by kernel_rfl) (by kernel_rfl) (fun _ _ _ h => h) (Or.inl ⟨by rfl, ?yz5x10⟩) hHeld ?rz5x10
        case yz5x10 => (intro w' hSw; have hcut := HCK.out; go_simp; try with_reducible rfl)
        simp only [Act.put, List.getElem_toArray, List.getElem_cons_succ, List.getElem_cons_zero, List.setIfInBounds_toArray, List.set_cons_zero, List.set_cons_succ]
        refine wpAnyH_ready (rs := [1, 2]) (by kernel_rfl) (by simp) ?_
        refine AllReadyH.cons rfl (fun KR hK => ?_) (AllReadyH.cons rfl (fun KR hK => ?_) AllReadyH.nil)
        · go_simp
          refine (HRW.out _ (HK4.out.trans hHeld)).mono ?_
          rintro r wa ⟨Ar, cr, zs, nr, hzn, rfl, hpk, hzb, hor, hk⟩
          have HZ := Lib.hid (And.intro hzn (And.intro hpk hzb))
          have HOR := Lib.hid hor
          clear hzn hpk hzb hor
          dsimp only
          refine hK.out _ _ (hHeld.trans hk) (fun hHeld => ?_)
          clear hK KR hk
          try simp only [Act.put, List.getElem_toArray, List.getElem_cons_succ, List.getElem_cons_zero, List.setIfInBounds_toArray, List.set_cons_zero, List.set_cons_succ]
          obtain ⟨hzl, hzu⟩ := HRU.out zs HZ.out.2.1 HZ.out.2.2
          have hnj : j = nr := by have := HZ.out.1; omega
          subst hnj
          have HZU := Lib.hid hzu
          clear hzl hzu
          refine wpAnyH_ready (rs := [2]) (by kernel_rfl) (by simp) ?_
          refine AllReadyH.cons rfl (fun KR hK => ?_) AllReadyH.nil
          go_simp
          have hk := (Keeps.refl (fun _ => False) (wa)).alloc (.map #[] 0)
          have HM := Lib.hid (IsF.new Tryz.prog 3 60001 ikl (wa))
          have HMP : Hid (w4.heap.size ≤ (wa).heap.size) := Lib.hid hHeld.size
          refine hK.out _ _ (hHeld.trans hk) (fun hHeld => ?_)
          clear hK KR
          try simp only [Act.put, List.getElem_toArray, List.getElem_cons_succ, List.getElem_cons_zero, List.setIfInBounds_toArray, List.set_cons_zero, List.set_cons_succ]
          generalize (wa).alloc (.map #[] 0) = wb at hk HM hHeld ⊢
          obtain ⟨mb, hmb⟩ : ∃ q, (wa).heap.size = q := ⟨_, rfl⟩
          rw [hmb] at HM HMP ⊢
          clear hmb
          replace HOR := Lib.hid (own_keeps HOR.out hk fun _ _ => id)
          clear hk
          have HAP := Lib.hid (own_ne_map HOR.out HM.out)
          obtain ⟨W5, hrun0, hu5, hk5⟩ := Qi.IsF.update_run int_ks HM.out Tryz.underlying28 (by omega) (show 5 < 60001 by omega) (.slice Ak k cb)
          have hrun : (Instr.mapUpdate 28 (.map (some mb)) (.int .i64 5) (.slice Ak k cb)).run Tryz.prog wb = .ok () W5 := hrun0
          have HMU := Lib.hid hu5
          have HK5 := Lib.hid hk5
          clear hrun0 hu5 hk5
          refine wpAnyH_ready (rs := [6]) (by kernel_rfl) (by simp) ?_
          refine AllReadyH.cons rfl (fun KR hK => ?_) AllReadyH.nil
          go_simp
          try dsimp only
          refine hK.out _ _ (keeps_low hHeld HK5.out (fun x hx => by subst hx; exact HMP.out)) (fun hHeld => ?_)
          clear hK KR hrun
          try simp only [Act.put, List.getElem_toArray, List.getElem_cons_succ, List.getElem_cons_zero, List.setIfInBounds_toArray, List.set_cons_zero, List.set_cons_succ]
          replace HOR := Lib.hid (own_keeps HOR.out HK5.out HAP.out)
          refine wpAnyH_take (i := 7) (v := ?vz7x1) rfl (by kernel_rfl) (by kernel_rfl) (by kernel_rfl) (fun _ _ _ h => h) (Or.inl ⟨by rfl, ?yz7x1⟩) hHeld ?rz7x1
          case yz7x1 => (intro w' hSw; go_simp; try with_reducible rfl)
          simp only [Act.put, List.getElem_toArray, List.getElem_cons_succ, List.getElem_cons_zero, List.setIfInBounds_toArray, List.set_cons_zero, List.set_cons_succ]
          refine wpAnyH_ready (rs := [8]) (by kernel_rfl) (by simp) ?_
          refine AllReadyH.cons rfl (fun KR hK => ?_) AllReadyH.nil
          go_simp
          refine (new_one Ar Ak j cr k cb mb zs (ys.take k) _ HZ.out.1 (Lies.of_own HOR.out) (by have := HNN.out; omega) HZ.out.2.2 HTK.out (HLK.out _ (Lies.of_own (own_keeps HO.out hHeld fun _ _ => id))) (by have := HML.out; omega) (fun x hx => HYB.out x (List.mem_of_mem_take hx)) HMU.out).mono ?_
          rintro r wn ⟨gx, Fx, rfl, hlz, hk⟩
          have HLZ := Lib.hid hlz
          have HBX := Lib.hid hHeld.size
          clear hlz
          dsimp only
          refine hK.out _ _ (hHeld.trans hk) (fun hHeld => ?_)
          clear hK KR hk
          try simp only [Act.put, List.getElem_toArray, List.getElem_cons_succ, List.getElem_cons_zero, List.setIfInBounds_toArray, List.set_cons_zero, List.set_cons_succ]
          refine wpAnyH_take (i := 9) (v := ?vz9x2) rfl (by kernel_rfl) (by kernel_rfl) (by kernel_rfl) (fun _ _ _ h => h) (Or.inl ⟨by rfl, ?yz9x2⟩) hHeld ?rz9x2
          case yz9x2 => (intro w' hSw; go_simp; try with_reducible rfl)
          simp only [Act.put, List.getElem_toArray, List.getElem_cons_succ, List.getElem_cons_zero, List.setIfInBounds_toArray, List.set_cons_zero, List.set_cons_succ]
          have HKF := Lib.hid hHeld
          refine wpAnyH_done (by kernel_rfl) ?_ _
          clear hHeld
          go_wp2_with fail
          go_meet
          exact ⟨gx, Fx, _, zs, rfl, HKF.out, HLZ.out, HBX.out⟩
        · go_simp
          have hk := (Keeps.refl (fun _ => False) (wd)).alloc (.map #[] 0)
          have HM := Lib.hid (IsF.new Tryz.prog 3 60001 ikl (wd))
          have HMP : Hid (w4.heap.size ≤ (wd).heap.size) := Lib.hid hHeld.size
          refine hK.out _ _ (hHeld.trans hk) (fun hHeld => ?_)
          clear hK KR
          try simp only [Act.put, List.getElem_toArray, List.getElem_cons_succ, List.getElem_cons_zero, List.setIfInBounds_toArray, List.set_cons_zero, List.set_cons_succ]
          generalize (wd).alloc (.map #[] 0) = wb at hk HM hHeld ⊢
          obtain ⟨mb, hmb⟩ : ∃ q, (wd).heap.size = q := ⟨_, rfl⟩
          rw [hmb] at HM HMP ⊢
          clear hmb
          clear hk
          refine wpAnyH_ready (rs := [1, 6]) (by kernel_rfl) (by simp) ?_
          refine AllReadyH.cons rfl (fun KR hK => ?_) (AllReadyH.cons rfl (fun KR hK => ?_) AllReadyH.nil)
          · go_simp
            refine (HRW.out _ (HK4.out.trans hHeld)).mono ?_
            rintro r wa ⟨Ar, cr, zs, nr, hzn, rfl, hpk, hzb, hor, hk⟩
            have HZ := Lib.hid (And.intro hzn (And.intro hpk hzb))
            have HOR := Lib.hid hor
            clear hzn hpk hzb hor
            replace HM := Lib.hid (HM.out.keeps hk id)
            dsimp only
            refine hK.out _ _ (hHeld.trans hk) (fun hHeld => ?_)
            clear hK KR hk
            try simp only [Act.put, List.getElem_toArray, List.getElem_cons_succ, List.getElem_cons_zero, List.setIfInBounds_toArray, List.set_cons_zero, List.set_cons_succ]
            obtain ⟨hzl, hzu⟩ := HRU.out zs HZ.out.2.1 HZ.out.2.2
            have hnj : j = nr := by have := HZ.out.1; omega
            subst hnj
            have HZU := Lib.hid hzu
            clear hzl hzu
            have HAP := Lib.hid (own_ne_map HOR.out HM.out)
            obtain ⟨W5, hrun0, hu5, hk5⟩ := Qi.IsF.update_run int_ks HM.out Tryz.underlying28 (by omega) (show 5 < 60001 by omega) (.slice Ak k cb)
            have hrun : (Instr.mapUpdate 28 (.map (some mb)) (.int .i64 5) (.slice Ak k cb)).run Tryz.prog wa = .ok () W5 := hrun0
            have HMU := Lib.hid hu5
            have HK5 := Lib.hid hk5
            clear hrun0 hu5 hk5
            refine wpAnyH_ready (rs := [6]) (by kernel_rfl) (by simp) ?_
            refine AllReadyH.cons rfl (fun KR hK => ?_) AllReadyH.nil
            go_simp
            try dsimp only
            refine hK.out _ _ (keeps_low hHeld HK5.out (fun x hx => by subst hx; exact HMP.out)) (fun hHeld => ?_)
            clear hK KR hrun
            try simp only [Act.put, List.getElem_toArray, List.getElem_cons_succ, List.getElem_cons_zero, List.setIfInBounds_toArray, List.set_cons_zero, List.set_cons_succ]
            replace HOR := Lib.hid (own_keeps HOR.out HK5.out HAP.out)
            refine wpAnyH_take (i := 7) (v := ?vz7x3) rfl (by kernel_rfl) (by kernel_rfl) (by kernel_rfl) (fun _ _ _ h => h) (Or.inl ⟨by rfl, ?yz7x3⟩) hHeld ?rz7x3
            case yz7x3 => (intro w' hSw; go_simp; try with_reducible rfl)
            simp only [Act.put, List.getElem_toArray, List.getElem_cons_succ, List.getElem_cons_zero, List.setIfInBounds_toArray, List.set_cons_zero, List.set_cons_succ]
            refine wpAnyH_ready (rs := [8]) (by kernel_rfl) (by simp) ?_
            refine AllReadyH.cons rfl (fun KR hK => ?_) AllReadyH.nil
            go_simp
            refine (new_one Ar Ak j cr k cb mb zs (ys.take k) _ HZ.out.1 (Lies.of_own HOR.out) (by have := HNN.out; omega) HZ.out.2.2 HTK.out (HLK.out _ (Lies.of_own (own_keeps HO.out hHeld fun _ _ => id))) (by have := HML.out; omega) (fun x hx => HYB.out x (List.mem_of_mem_take hx)) HMU.out).mono ?_
            rintro r wn ⟨gx, Fx, rfl, hlz, hk⟩
            have HLZ := Lib.hid hlz
            have HBX := Lib.hid hHeld.size
            clear hlz
            dsimp only
            refine hK.out _ _ (hHeld.trans hk) (fun hHeld => ?_)
            clear hK KR hk
            try simp only [Act.put, List.getElem_toArray, List.getElem_cons_succ, List.getElem_cons_zero, List.setIfInBounds_toArray, List.set_cons_zero, List.set_cons_succ]
            refine wpAnyH_take (i := 9) (v := ?vz9x4) rfl (by kernel_rfl) (by kernel_rfl) (by kernel_rfl) (fun _ _ _ h => h) (Or.inl ⟨by rfl, ?yz9x4⟩) hHeld ?rz9x4
            case yz9x4 => (intro w' hSw; go_simp; try with_reducible rfl)
            simp only [Act.put, List.getElem_toArray, List.getElem_cons_succ, List.getElem_cons_zero, List.setIfInBounds_toArray, List.set_cons_zero, List.set_cons_succ]
            have HKF := Lib.hid hHeld
            refine wpAnyH_done (by kernel_rfl) ?_ _
            clear hHeld
            go_wp2_with fail
            go_meet
            exact ⟨gx, Fx, _, zs, rfl, HKF.out, HLZ.out, HBX.out⟩
          · obtain ⟨W5, hrun0, hu5, hk5⟩ := Qi.IsF.update_run int_ks HM.out Tryz.underlying28 (by omega) (show 5 < 60001 by omega) (.slice Ak k cb)
            have hrun : (Instr.mapUpdate 28 (.map (some mb)) (.int .i64 5) (.slice Ak k cb)).run Tryz.prog wb = .ok () W5 := hrun0
            have HMU := Lib.hid hu5
            have HK5 := Lib.hid hk5
            clear hrun0 hu5 hk5
            go_simp
            try dsimp only
            refine hK.out _ _ (keeps_low hHeld HK5.out (fun x hx => by subst hx; exact HMP.out)) (fun hHeld => ?_)
            clear hK KR hrun
            try simp only [Act.put, List.getElem_toArray, List.getElem_cons_succ, List.getElem_cons_zero, List.setIfInBounds_toArray, List.set_cons_zero, List.set_cons_succ]
            refine wpAnyH_take (i := 7) (v := ?vz7x5) rfl (by kernel_rfl) (by kernel_rfl) (by kernel_rfl) (fun _ _ _ h => h) (Or.inl ⟨by rfl, ?yz7x5⟩) hHeld ?rz7x5
            case yz7x5 => (intro w' hSw; go_simp; try with_reducible rfl)
            simp only [Act.put, List.getElem_toArray, List.getElem_cons_succ, List.getElem_cons_zero, List.setIfInBounds_toArray, List.set_cons_zero, List.set_cons_succ]
            refine wpAnyH_ready (rs := [1]) (by kernel_rfl) (by simp) ?_
            refine AllReadyH.cons rfl (fun KR hK => ?_) AllReadyH.nil
            go_simp
            refine (HRW.out _ (HK4.out.trans hHeld)).mono ?_
            rintro r wa ⟨Ar, cr, zs, nr, hzn, rfl, hpk, hzb, hor, hk⟩
            have HZ := Lib.hid (And.intro hzn (And.intro hpk hzb))
            have HOR := Lib.hid hor
            clear hzn hpk hzb hor
            replace HMU := Lib.hid (HMU.out.keeps hk id)
            dsimp only
            refine hK.out _ _ (hHeld.trans hk) (fun hHeld => ?_)
            clear hK KR hk
            try simp only [Act.put, List.getElem_toArray, List.getElem_cons_succ, List.getElem_cons_zero, List.setIfInBounds_toArray, List.set_cons_zero, List.set_cons_succ]
            obtain ⟨hzl, hzu⟩ := HRU.out zs HZ.out.2.1 HZ.out.2.2
            have hnj : j = nr := by have := HZ.out.1; omega
            subst hnj
            have HZU := Lib.hid hzu
            clear hzl hzu
            refine wpAnyH_ready (rs := [8]) (by kernel_rfl) (by simp) ?_
            refine AllReadyH.cons rfl (fun KR hK => ?_) AllReadyH.nil
            go_simp
            refine (new_one Ar Ak j cr k cb mb zs (ys.take k) _ HZ.out.1 (Lies.of_own HOR.out) (by have := HNN.out; omega) HZ.out.2.2 HTK.out (HLK.out _ (Lies.of_own (own_keeps HO.out hHeld fun _ _ => id))) (by have := HML.out; omega) (fun x hx => HYB.out x (List.mem_of_mem_take hx)) HMU.out).mono ?_
            rintro r wn ⟨gx, Fx, rfl, hlz, hk⟩
            have HLZ := Lib.hid hlz
            have HBX := Lib.hid hHeld.size
            clear hlz
            dsimp only
            refine hK.out _ _ (hHeld.trans hk) (fun hHeld => ?_)
            clear hK KR hk
            try simp only [Act.put, List.getElem_toArray, List.getElem_cons_succ, List.getElem_cons_zero, List.setIfInBounds_toArray, List.set_cons_zero, List.set_cons_succ]
            refine wpAnyH_take (i := 9) (v := ?vz9x6) rfl (by kernel_rfl) (by kernel_rfl) (by kernel_rfl) (fun _ _ _ h => h) (Or.inl ⟨by rfl, ?yz9x6⟩) hHeld ?rz9x6
            case yz9x6 => (intro w' hSw; go_simp; try with_reducible rfl)
            simp only [Act.put, List.getElem_toArray, List.getElem_cons_succ, List.getElem_cons_zero, List.setIfInBounds_toArray, List.set_cons_zero, List.set_cons_succ]
            have HKF := Lib.hid hHeld
            refine wpAnyH_done (by kernel_rfl) ?_ _
            clear hHeld
            go_wp2_with fail
            go_meet
            exact ⟨gx, Fx, _, zs, rfl, HKF.out, HLZ.out, HBX.out⟩
      case rest =>
        obtain ⟨wx, rfl⟩ : ∃ x, x = wc := ⟨_, rfl⟩
        obtain ⟨gx, Fx, Bx, zsx, rfl, HX⟩ := hcut
        have HKX := Lib.hid (HK4.out.trans HX.out.1)
        have HOX := Lib.hid (own_keeps HO.out HX.out.1 fun _ _ => id)
        go_upto_region 16 with fail
        go_cut [13] from 69 to 80 (fun v13 wy => ∃ gy Fy By zs, v13 = .pointer (some ⟨gy, 0, none⟩) ∧ Hid (Keeps (fun _ => False) wx wy ∧ Lz By gy Fy ⟨zs, 0, false⟩ (oneG 5 ⟨ys, 0, 0⟩) 0 0 wy ∧ wx.heap.size ≤ By ∧ zs.length = cc ∧ (∀ i, i < cc → zs.getD i 0 = u i) ∧ ∀ x ∈ zs, 0 ≤ x ∧ x < 256))
        case first =>
          refine wp_region_held_drew (S := fun w' => Keeps (fun _ => False) wx w') (by kernel_rfl) ((Keeps.refl _ _).drewN 1) (fun hHeld => ?_)
          have hHeld2 : Keeps (fun _ => False) wx wx.drew := hHeld
          clear hHeld
          generalize wx.drew = wd at hHeld2 ⊢
          have hHeld := hHeld2
          clear hHeld2
          refine wpAnyH_take (i := 0) (v := ?vz0x20) rfl (by kernel_rfl) (by kernel_rfl) (by kernel_rfl) (fun _ _ _ h => h) (Or.inl ⟨by rfl, ?yz0x20⟩) hHeld ?rz0x20
          case yz0x20 => (intro w' hSw; go_simp; try with_reducible rfl)
          simp only [Act.put, List.getElem_toArray, List.getElem_cons_succ, List.getElem_cons_zero, List.setIfInBounds_toArray, List.set_cons_zero, List.set_cons_succ]
          refine wpAnyH_take (i := 2) (v := ?vz2x21) rfl (by kernel_rfl) (by kernel_rfl) (by kernel_rfl) (fun _ _ _ h => h) (Or.inl ⟨by rfl, ?yz2x21⟩) hHeld ?rz2x21
          case yz2x21 => (intro w' hSw; go_simp; try with_reducible rfl)
          simp only [Act.put, List.getElem_toArray, List.getElem_cons_succ, List.getElem_cons_zero, List.setIfInBounds_toArray, List.set_cons_zero, List.set_cons_succ]
          refine wpAnyH_take (i := 3) (v := ?vz3x22) rfl (by kernel_rfl) (by kernel_rfl) (by kernel_rfl) (fun _ _ _ h => h) (Or.inl ⟨by rfl, ?yz3x22⟩) hHeld ?rz3x22
          case yz3x22 => (intro w' hSw; go_simp; try with_reducible rfl)
          simp only [Act.put, List.getElem_toArray, List.getElem_cons_succ, List.getElem_cons_zero, List.setIfInBounds_toArray, List.set_cons_zero, List.set_cons_succ]
          refine wpAnyH_take (i := 4) (v := ?vz4x23) rfl (by kernel_rfl) (by kernel_rfl) (by kernel_rfl) (fun _ _ _ h => h) (Or.inl ⟨by rfl, ?yz4x23⟩) hHeld ?rz4x23
          case yz4x23 => (intro w' hSw; go_simp; try with_reducible rfl)
          simp only [Act.put, List.getElem_toArray, List.getElem_cons_succ, List.getElem_cons_zero, List.setIfInBounds_toArray, List.set_cons_zero, List.set_cons_succ]
          refine wpAnyH_take (i := 5) (v := ?vz5x24) rfl (by kernel_rfl) (by kernel_rfl) (by kernel_rfl) (fun _ _ _ h => h) (Or.inl ⟨by rfl, ?yz5x24⟩) hHeld ?rz5x24
          case yz5x24 => (intro w' hSw; go_simp; try with_reducible rfl)
          simp only [Act.put, List.getElem_toArray, List.getElem_cons_succ, List.getElem_cons_zero, List.setIfInBounds_toArray, List.set_cons_zero, List.set_cons_succ]
          refine wpAnyH_take (i := 6) (v := ?vz6x25) rfl (by kernel_rfl) (by kernel_rfl) (by kernel_rfl) (fun _ _ _ h => h) (Or.inl ⟨by rfl, ?yz6x25⟩) hHeld ?rz6x25
          case yz6x25 => (intro w' hSw; go_simp; try with_reducible rfl)
          simp only [Act.put, List.getElem_toArray, List.getElem_cons_succ, List.getElem_cons_zero, List.setIfInBounds_toArray, List.set_cons_zero, List.set_cons_succ]
          refine wpAnyH_take (i := 9) (v := ?vz9x26) rfl (by kernel_rfl) (by kernel_rfl) (by kernel_rfl) (fun _ _ _ h => h) (Or.inl ⟨by rfl, ?yz9x26⟩) hHeld ?rz9x26
          case yz9x26 => (intro w' hSw; go_simp; try with_reducible rfl)
          simp only [Act.put, List.getElem_toArray, List.getElem_cons_succ, List.getElem_cons_zero, List.setIfInBounds_toArray, List.set_cons_zero, List.set_cons_succ]
          refine wpAnyH_ready (rs := [1, 8]) (by kernel_rfl) (by simp) ?_
          refine AllReadyH.cons rfl (fun KR hK => ?_) (AllReadyH.cons rfl (fun KR hK => ?_) AllReadyH.nil)
          · go_simp
            refine (HRW.out _ (HKX.out.trans hHeld)).mono ?_
            rintro r wa ⟨Ar, cr, zs, nr, hzn, rfl, hpk, hzb, hor, hk⟩
            have HZ := Lib.hid (And.intro hzn (And.intro hpk hzb))
            have HOR := Lib.hid hor
            clear hzn hpk hzb hor
            dsimp only
            refine hK.out _ _ (hHeld.trans hk) (fun hHeld => ?_)
            clear hK KR hk
            try simp only [Act.put, List.getElem_toArray, List.getElem_cons_succ, List.getElem_cons_zero, List.setIfInBounds_toArray, List.set_cons_zero, List.set_cons_succ]
            obtain ⟨hzl, hzu⟩ := HRU.out zs HZ.out.2.1 HZ.out.2.2
            have hnj : j = nr := by have := HZ.out.1; omega
            subst hnj
            have HZU := Lib.hid hzu
            clear hzl hzu
            have hjc := own_room HOR.out
            obtain ⟨Ac, hAc⟩ : ∃ x, cutAt Ar cr 0 = x := ⟨_, rfl⟩
            have hncc := HNN.out
            have HCC : Hid (∀ w, (Instr.slice 29 (.slice Ar j cr) none (some (.int .i64 (cc : Int))) none).run Tryz.prog w = .ok (.slice Ac cc cr) w) := fun w => by rw [← hAc]; exact run_cut_to 29 5 Ar j cr cc .i64 Tryz.underlying29 Br.size_u8 (by omega) w
            have HLC : Hid (∀ W, Lies W Ar zs → Lies W Ac (zs.take cc)) := fun W h => by rw [← hAc]; exact lies_upto h cr cc (by have := HZ.out.1; omega) (by have := HZ.out.1; omega)
            have HTC : Hid ((zs.take cc).length = cc) := by show _ = _; rw [List.length_take, HZ.out.1]; omega
            clear hAc
            refine wpAnyH_take (i := 7) (v := ?vz7x11) rfl (by kernel_rfl) (by kernel_rfl) (by kernel_rfl) (fun _ _ _ h => h) (Or.inl ⟨by rfl, ?yz7x11⟩) hHeld ?rz7x11
            case yz7x11 => (intro w' hSw; have hcut := HCC.out; go_simp; try with_reducible rfl)
            simp only [Act.put, List.getElem_toArray, List.getElem_cons_succ, List.getElem_cons_zero, List.setIfInBounds_toArray, List.set_cons_zero, List.set_cons_succ]
            refine wpAnyH_ready (rs := [8]) (by kernel_rfl) (by simp) ?_
            refine AllReadyH.cons rfl (fun KR hK => ?_) AllReadyH.nil
            go_simp
            have hk := (Keeps.refl (fun _ => False) (wa)).alloc (.map #[] 0)
            have HM := Lib.hid (IsF.new Tryz.prog 3 60001 ikl (wa))
            have HMP : Hid (wx.heap.size ≤ (wa).heap.size) := Lib.hid hHeld.size
            refine hK.out _ _ (hHeld.trans hk) (fun hHeld => ?_)
            clear hK KR
            try simp only [Act.put, List.getElem_toArray, List.getElem_cons_succ, List.getElem_cons_zero, List.setIfInBounds_toArray, List.set_cons_zero, List.set_cons_succ]
            generalize (wa).alloc (.map #[] 0) = wb at hk HM hHeld ⊢
            obtain ⟨mb, hmb⟩ : ∃ q, (wa).heap.size = q := ⟨_, rfl⟩
            rw [hmb] at HM HMP ⊢
            clear hmb
            replace HOR := Lib.hid (own_keeps HOR.out hk fun _ _ => id)
            clear hk
            have HAP := Lib.hid (own_ne_map HOR.out HM.out)
            obtain ⟨W5, hrun0, hu5, hk5⟩ := Qi.IsF.update_run int_ks HM.out Tryz.underlying28 (by omega) (show 5 < 60001 by omega) (.slice Ab m cb)
            have hrun : (Instr.mapUpdate 28 (.map (some mb)) (.int .i64 5) (.slice Ab m cb)).run Tryz.prog wb = .ok () W5 := hrun0
            have HMU := Lib.hid hu5
            have HK5 := Lib.hid hk5
            clear hrun0 hu5 hk5
            refine wpAnyH_ready (rs := [10]) (by kernel_rfl) (by simp) ?_
            refine AllReadyH.cons rfl (fun KR hK => ?_) AllReadyH.nil
            go_simp
            try dsimp only
            refine hK.out _ _ (keeps_low hHeld HK5.out (fun x hx => by subst hx; exact HMP.out)) (fun hHeld => ?_)
            clear hK KR hrun
            try simp only [Act.put, List.getElem_toArray, List.getElem_cons_succ, List.getElem_cons_zero, List.setIfInBounds_toArray, List.set_cons_zero, List.set_cons_succ]
            replace HOR := Lib.hid (own_keeps HOR.out HK5.out HAP.out)
            refine wpAnyH_take (i := 11) (v := ?vz11x12) rfl (by kernel_rfl) (by kernel_rfl) (by kernel_rfl) (fun _ _ _ h => h) (Or.inl ⟨by rfl, ?yz11x12⟩) hHeld ?rz11x12
            case yz11x12 => (intro w' hSw; go_simp; try with_reducible rfl)
            simp only [Act.put, List.getElem_toArray, List.getElem_cons_succ, List.getElem_cons_zero, List.setIfInBounds_toArray, List.set_cons_zero, List.set_cons_succ]
            refine wpAnyH_ready (rs := [12]) (by kernel_rfl) (by simp) ?_
            refine AllReadyH.cons rfl (fun KR hK => ?_) AllReadyH.nil
            go_simp
            refine (new_one Ac Ab cc cr m cb mb (zs.take cc) ys _ HTC.out (HLC.out _ (Lies.of_own HOR.out)) (by have := HNN.out; omega) (fun x hx => HZ.out.2.2 x (List.mem_of_mem_take hx)) HYM.out (Lies.of_own (own_keeps HOX.out hHeld fun _ _ => id)) (by have := HML.out; omega) HYB.out HMU.out).mono ?_
            rintro r wn ⟨gx, Fx, rfl, hlz, hk⟩
            have HLZ := Lib.hid hlz
            have HBX := Lib.hid hHeld.size
            clear hlz
            dsimp only
            refine hK.out _ _ (hHeld.trans hk) (fun hHeld => ?_)
            clear hK KR hk
            try simp only [Act.put, List.getElem_toArray, List.getElem_cons_succ, List.getElem_cons_zero, List.setIfInBounds_toArray, List.set_cons_zero, List.set_cons_succ]
            refine wpAnyH_take (i := 13) (v := ?vz13x13) rfl (by kernel_rfl) (by kernel_rfl) (by kernel_rfl) (fun _ _ _ h => h) (Or.inl ⟨by rfl, ?yz13x13⟩) hHeld ?rz13x13
            case yz13x13 => (intro w' hSw; go_simp; try with_reducible rfl)
            simp only [Act.put, List.getElem_toArray, List.getElem_cons_succ, List.getElem_cons_zero, List.setIfInBounds_toArray, List.set_cons_zero, List.set_cons_succ]
            have HKF := Lib.hid hHeld
            refine wpAnyH_done (by kernel_rfl) ?_ _
            clear hHeld
            go_wp2_with fail
            go_meet
            exact ⟨gx, Fx, _, zs.take cc, rfl, HKF.out, HLZ.out, HBX.out, HTC.out, fun i hi => (take_getD zs hi).trans (HZU.out i (Nat.lt_trans hi hcm)), fun x hx => HZ.out.2.2 x (List.mem_of_mem_take hx)⟩
          · go_simp
            have hk := (Keeps.refl (fun _ => False) (wd)).alloc (.map #[] 0)
            have HM := Lib.hid (IsF.new Tryz.prog 3 60001 ikl (wd))
            have HMP : Hid (wx.heap.size ≤ (wd).heap.size) := Lib.hid hHeld.size
            refine hK.out _ _ (hHeld.trans hk) (fun hHeld => ?_)
            clear hK KR
            try simp only [Act.put, List.getElem_toArray, List.getElem_cons_succ, List.getElem_cons_zero, List.setIfInBounds_toArray, List.set_cons_zero, List.set_cons_succ]
            generalize (wd).alloc (.map #[] 0) = wb at hk HM hHeld ⊢
            obtain ⟨mb, hmb⟩ : ∃ q, (wd).heap.size = q := ⟨_, rfl⟩
            rw [hmb] at HM HMP ⊢
            clear hmb
            clear hk
            refine wpAnyH_ready (rs := [1, 10]) (by kernel_rfl) (by simp) ?_
            refine AllReadyH.cons rfl (fun KR hK => ?_) (AllReadyH.cons rfl (fun KR hK => ?_) AllReadyH.nil)
            · go_simp
              refine (HRW.out _ (HKX.out.trans hHeld)).mono ?_
              rintro r wa ⟨Ar, cr, zs, nr, hzn, rfl, hpk, hzb, hor, hk⟩
              have HZ := Lib.hid (And.intro hzn (And.intro hpk hzb))
              have HOR := Lib.hid hor
              clear hzn hpk hzb hor
              replace HM := Lib.hid (HM.out.keeps hk id)
              dsimp only
              refine hK.out _ _ (hHeld.trans hk) (fun hHeld => ?_)
              clear hK KR hk
              try simp only [Act.put, List.getElem_toArray, List.getElem_cons_succ, List.getElem_cons_zero, List.setIfInBounds_toArray, List.set_cons_zero, List.set_cons_succ]
              obtain ⟨hzl, hzu⟩ := HRU.out zs HZ.out.2.1 HZ.out.2.2
              have hnj : j = nr := by have := HZ.out.1; omega
              subst hnj
              have HZU := Lib.hid hzu
              clear hzl hzu
              have hjc := own_room HOR.out
              obtain ⟨Ac, hAc⟩ : ∃ x, cutAt Ar cr 0 = x := ⟨_, rfl⟩
              have hncc := HNN.out
              have HCC : Hid (∀ w, (Instr.slice 29 (.slice Ar j cr) none (some (.int .i64 (cc : Int))) none).run Tryz.prog w = .ok (.slice Ac cc cr) w) := fun w => by rw [← hAc]; exact run_cut_to 29 5 Ar j cr cc .i64 Tryz.underlying29 Br.size_u8 (by omega) w
              have HLC : Hid (∀ W, Lies W Ar zs → Lies W Ac (zs.take cc)) := fun W h => by rw [← hAc]; exact lies_upto h cr cc (by have := HZ.out.1; omega) (by have := HZ.out.1; omega)
              have HTC : Hid ((zs.take cc).length = cc) := by show _ = _; rw [List.length_take, HZ.out.1]; omega
              clear hAc
              refine wpAnyH_take (i := 7) (v := ?vz7x14) rfl (by kernel_rfl) (by kernel_rfl) (by kernel_rfl) (fun _ _ _ h => h) (Or.inl ⟨by rfl, ?yz7x14⟩) hHeld ?rz7x14
              case yz7x14 => (intro w' hSw; have hcut := HCC.out; go_simp; try with_reducible rfl)
              simp only [Act.put, List.getElem_toArray, List.getElem_cons_succ, List.getElem_cons_zero, List.setIfInBounds_toArray, List.set_cons_zero, List.set_cons_succ]
              have HAP := Lib.hid (own_ne_map HOR.out HM.out)
              obtain ⟨W5, hrun0, hu5, hk5⟩ := Qi.IsF.update_run int_ks HM.out Tryz.underlying28 (by omega) (show 5 < 60001 by omega) (.slice Ab m cb)
              have hrun : (Instr.mapUpdate 28 (.map (some mb)) (.int .i64 5) (.slice Ab m cb)).run Tryz.prog wa = .ok () W5 := hrun0
              have HMU := Lib.hid hu5
              have HK5 := Lib.hid hk5
              clear hrun0 hu5 hk5
              refine wpAnyH_ready (rs := [10]) (by kernel_rfl) (by simp) ?_
              refine AllReadyH.cons rfl (fun KR hK => ?_) AllReadyH.nil
              go_simp
              try dsimp only
              refine hK.out _ _ (keeps_low hHeld HK5.out (fun x hx => by subst hx; exact HMP.out)) (fun hHeld => ?_)
              clear hK KR hrun
              try simp only [Act.put, List.getElem_toArray, List.getElem_cons_succ, List.getElem_cons_zero, List.setIfInBounds_toArray, List.set_cons_zero, List.set_cons_succ]
              replace HOR := Lib.hid (own_keeps HOR.out HK5.out HAP.out)
              refine wpAnyH_take (i := 11) (v := ?vz11x15) rfl (by kernel_rfl) (by kernel_rfl) (by kernel_rfl) (fun _ _ _ h => h) (Or.inl ⟨by rfl, ?yz11x15⟩) hHeld ?rz11x15
              case yz11x15 => (intro w' hSw; go_simp; try with_reducible rfl)
              simp only [Act.put, List.getElem_toArray, List.getElem_cons_succ, List.getElem_cons_zero, List.setIfInBounds_toArray, List.set_cons_zero, List.set_cons_succ]
              refine wpAnyH_ready (rs := [12]) (by kernel_rfl) (by simp) ?_
              refine AllReadyH.cons rfl (fun KR hK => ?_) AllReadyH.nil
              go_simp
              refine (new_one Ac Ab cc cr m cb mb (zs.take cc) ys _ HTC.out (HLC.out _ (Lies.of_own HOR.out)) (by have := HNN.out; omega) (fun x hx => HZ.out.2.2 x (List.mem_of_mem_take hx)) HYM.out (Lies.of_own (own_keeps HOX.out hHeld fun _ _ => id)) (by have := HML.out; omega) HYB.out HMU.out).mono ?_
              rintro r wn ⟨gx, Fx, rfl, hlz, hk⟩
              have HLZ := Lib.hid hlz
              have HBX := Lib.hid hHeld.size
              clear hlz
              dsimp only
              refine hK.out _ _ (hHeld.trans hk) (fun hHeld => ?_)
              clear hK KR hk
              try simp only [Act.put, List.getElem_toArray, List.getElem_cons_succ, List.getElem_cons_zero, List.setIfInBounds_toArray, List.set_cons_zero, List.set_cons_succ]
              refine wpAnyH_take (i := 13) (v := ?vz13x16) rfl (by kernel_rfl) (by kernel_rfl) (by kernel_rfl) (fun _ _ _ h => h) (Or.inl ⟨by rfl, ?yz13x16⟩) hHeld ?rz13x16
              case yz13x16 => (intro w' hSw; go_simp; try with_reducible rfl)
              simp only [Act.put, List.getElem_toArray, List.getElem_cons_succ, List.getElem_cons_zero, List.setIfInBounds_toArray, List.set_cons_zero, List.set_cons_succ]
              have HKF := Lib.hid hHeld
              refine wpAnyH_done (by kernel_rfl) ?_ _
              clear hHeld
              go_wp2_with fail
              go_meet
              exact ⟨gx, Fx, _, zs.take cc, rfl, HKF.out, HLZ.out, HBX.out, HTC.out, fun i hi => (take_getD zs hi).trans (HZU.out i (Nat.lt_trans hi hcm)), fun x hx => HZ.out.2.2 x (List.mem_of_mem_take hx)⟩
            · obtain ⟨W5, hrun0, hu5, hk5⟩ := Qi.IsF.update_run int_ks HM.out Tryz.underlying28 (by omega) (show 5 < 60001 by omega) (.slice Ab m cb)
              have hrun : (Instr.mapUpdate 28 (.map (some mb)) (.int .i64 5) (.slice Ab m cb)).run Tryz.prog wb = .ok () W5 := hrun0
              have HMU := Lib.hid hu5
              have HK5 := Lib.hid hk5
              clear hrun0 hu5 hk5
              go_simp
              try dsimp only
              refine hK.out _ _ (keeps_low hHeld HK5.out (fun x hx => by subst hx; exact HMP.out)) (fun hHeld => ?_)
              clear hK KR hrun
              try simp only [Act.put, List.getElem_toArray, List.getElem_cons_succ, List.getElem_cons_zero, List.setIfInBounds_toArray, List.set_cons_zero, List.set_cons_succ]
              refine wpAnyH_take (i := 11) (v := ?vz11x17) rfl (by kernel_rfl) (by kernel_rfl) (by kernel_rfl) (fun _ _ _ h => h) (Or.inl ⟨by rfl, ?yz11x17⟩) hHeld ?rz11x17
              case yz11x17 => (intro w' hSw; go_simp; try with_reducible rfl)
              simp only [Act.put, List.getElem_toArray, List.getElem_cons_succ, List.getElem_cons_zero, List.setIfInBounds_toArray, List.set_cons_zero, List.set_cons_succ]
              refine wpAnyH_ready (rs := [1]) (by kernel_rfl) (by simp) ?_
              refine AllReadyH.cons rfl (fun KR hK => ?_) AllReadyH.nil
              go_simp
              refine (HRW.out _ (HKX.out.trans hHeld)).mono ?_
              rintro r wa ⟨Ar, cr, zs, nr, hzn, rfl, hpk, hzb, hor, hk⟩
              have HZ := Lib.hid (And.intro hzn (And.intro hpk hzb))
              have HOR := Lib.hid hor
              clear hzn hpk hzb hor
              replace HMU := Lib.hid (HMU.out.keeps hk id)
              dsimp only
              refine hK.out _ _ (hHeld.trans hk) (fun hHeld => ?_)
              clear hK KR hk
              try simp only [Act.put, List.getElem_toArray, List.getElem_cons_succ, List.getElem_cons_zero, List.setIfInBounds_toArray, List.set_cons_zero, List.set_cons_succ]
              obtain ⟨hzl, hzu⟩ := HRU.out zs HZ.out.2.1 HZ.out.2.2
              have hnj : j = nr := by have := HZ.out.1; omega
              subst hnj
              have HZU := Lib.hid hzu
              clear hzl hzu
              have hjc := own_room HOR.out
              obtain ⟨Ac, hAc⟩ : ∃ x, cutAt Ar cr 0 = x := ⟨_, rfl⟩
              have hncc := HNN.out
              have HCC : Hid (∀ w, (Instr.slice 29 (.slice Ar j cr) none (some (.int .i64 (cc : Int))) none).run Tryz.prog w = .ok (.slice Ac cc cr) w) := fun w => by rw [← hAc]; exact run_cut_to 29 5 Ar j cr cc .i64 Tryz.underlying29 Br.size_u8 (by omega) w
              have HLC : Hid (∀ W, Lies W Ar zs → Lies W Ac (zs.take cc)) := fun W h => by rw [← hAc]; exact lies_upto h cr cc (by have := HZ.out.1; omega) (by have := HZ.out.1; omega)
              have HTC : Hid ((zs.take cc).length = cc) := by show _ = _; rw [List.length_take, HZ.out.1]; omega
              clear hAc
              refine wpAnyH_take (i := 7) (v := ?vz7x18) rfl (by kernel_rfl) (by kernel_rfl) (by kernel_rfl) (fun _ _ _ h => h) (Or.inl ⟨by rfl, ?yz7x18⟩) hHeld ?rz7x18
              case yz7x18 => (intro w' hSw; have hcut := HCC.out; go_simp; try with_reducible rfl)
              simp only [Act.put, List.getElem_toArray, List.getElem_cons_succ, List.getElem_cons_zero, List.setIfInBounds_toArray, List.set_cons_zero, List.set_cons_succ]
              refine wpAnyH_ready (rs := [12]) (by kernel_rfl) (by simp) ?_
              refine AllReadyH.cons rfl (fun KR hK => ?_) AllReadyH.nil
              go_simp
              refine (new_one Ac Ab cc cr m cb mb (zs.take cc) ys _ HTC.out (HLC.out _ (Lies.of_own HOR.out)) (by have := HNN.out; omega) (fun x hx => HZ.out.2.2 x (List.mem_of_mem_take hx)) HYM.out (Lies.of_own (own_keeps HOX.out hHeld fun _ _ => id)) (by have := HML.out; omega) HYB.out HMU.out).mono ?_
              rintro r wn ⟨gx, Fx, rfl, hlz, hk⟩
              have HLZ := Lib.hid hlz
              have HBX := Lib.hid hHeld.size
              clear hlz
              dsimp only
              refine hK.out _ _ (hHeld.trans hk) (fun hHeld => ?_)
              clear hK KR hk
              try simp only [Act.put, List.getElem_toArray, List.getElem_cons_succ, List.getElem_cons_zero, List.setIfInBounds_toArray, List.set_cons_zero, List.set_cons_succ]
              refine wpAnyH_take (i := 13) (v := ?vz13x19) rfl (by kernel_rfl) (by kernel_rfl) (by kernel_rfl) (fun _ _ _ h => h) (Or.inl ⟨by rfl, ?yz13x19⟩) hHeld ?rz13x19
              case yz13x19 => (intro w' hSw; go_simp; try with_reducible rfl)
              simp only [Act.put, List.getElem_toArray, List.getElem_cons_succ, List.getElem_cons_zero, List.setIfInBounds_toArray, List.set_cons_zero, List.set_cons_succ]
              have HKF := Lib.hid hHeld
              refine wpAnyH_done (by kernel_rfl) ?_ _
              clear hHeld
              go_wp2_with fail
              go_meet
              exact ⟨gx, Fx, _, zs.take cc, rfl, HKF.out, HLZ.out, HBX.out, HTC.out, fun i hi => (take_getD zs hi).trans (HZU.out i (Nat.lt_trans hi hcm)), fun x hx => HZ.out.2.2 x (List.mem_of_mem_take hx)⟩
        case rest =>
          obtain ⟨wy, rfl⟩ : ∃ x, x = wc := ⟨_, rfl⟩
          obtain ⟨gy, Fy, By, zs, rfl, HY⟩ := hcut
          have HTW : Hid (Two w1 gx gy bd bf v zs j k 0 0 0 0 0 wy) := by
            obtain ⟨kx, lx, bx⟩ := HX.out
            obtain ⟨ky, ly, by_, zl, zu, zb⟩ := HY.out
            have hs4 := HK4.out.size
            have hs1 := HS.out.keeps.size
            have hsx := kx.size
            have hlx := lx.lt
            have hly := ly.lt
            have hbd := HS.out.d.lt
            have hbf := HS.out.f.lt
            refine ⟨⟨Bx, By, Fx, Fy, _, _, _, _, 0, 0, lx.more ky, ly, fun x h1 h2 => ?_, ⟨fun h => ?_, fun h => ?_, fun h => ?_, fun h => ?_⟩, ⟨by omega, by omega⟩, ⟨by omega, by omega⟩, fun _ => ⟨?_, by simp [cat]⟩, fun h => absurd rfl h, fun _ => ⟨?_, rfl, by omega⟩, fun h => absurd rfl h⟩, HS.out.d.keeps (HKX.out.trans ky) id, HS.out.f.keeps (HKX.out.trans ky) id, HS.out.keeps.trans ((HKX.out.trans ky).mono fun _ _ h => h.elim)⟩
            · have := hlx x h1
              have := hly x h2
              omega
            · have := hlx _ h
              omega
            · have := hlx _ h
              omega
            · have := hly _ h
              omega
            · have := hly _ h
              omega
            · rw [HYS.out]
              rfl
            · rw [HYS.out]
              rfl
          have HZL := Lib.hid HY.out.2.2.2.1
          have HZU := Lib.hid HY.out.2.2.2.2.1
          have HZB := Lib.hid HY.out.2.2.2.2.2
          have HKY := Lib.hid (HKX.out.trans HY.out.1)
          have HSK := Lib.hid (HS.out.keeps)
          clear HX HY HKX HOX HRU HYB HTK HLK HCK HO HRW HS
          have HKM := Lib.hid hkm
          have HCM := Lib.hid hcm
          clear hrem hremc hmc hml2 hje hje2 hme hkm hcm
          go_wp2
          go_loopw [83] (fun iv wr => ∃ (a : Nat) (ex ey : Int), iv = .int .i64 (a : Int) ∧ a ≤ j ∧ Hid (Two w1 gx gy bd bf v zs j k a a a ex ey wr)) (fun iv _ => j - (intOf iv).toNat)
          case atStart => exact ⟨0, 0, 0, rfl, by omega, HTW⟩
          case round =>
            obtain ⟨a, ex, ey, rfl, ha, HT2⟩ := hrel
            clear HTW
            by_cases hlt2 : a < j
            · obtain ⟨hA0, hb0⟩ := H0.out (by omega)
              subst hA0
              have hcr : wr.cell? ⟨b0, o0 + a, none⟩ = some (.int .i32 (f a)) := (HT2.out.keeps.cell (p := ⟨b0, o0 + a, none⟩) (by have := HS1.out; show b0 < _; omega) (by have := HS1.out; show ¬ w1.heap.size ≤ b0; omega)).trans ((HK1.out.cell (p := ⟨b0, o0 + a, none⟩) hb0 id).trans (H0C.out a hlt2))
              obtain ⟨x, hx⟩ : ∃ x, f a = x := ⟨_, rfl⟩
              have hxr := HFR.out a
              have hxv := HV.out a
              have hxu := HU.out a
              rw [hx] at hcr hxr hxv hxu
              have hwx : IntKind.i64.wrap x = x := IntWalk.i64_in _ (by omega)
              obtain ⟨va, hva⟩ : ∃ y, v a = y := ⟨_, rfl⟩
              obtain ⟨y, hy⟩ : ∃ y, u a = y := ⟨_, rfl⟩
              have hyr := HUR.out a
              rw [hy] at hxu hyr
              rw [hva] at hxv
              have hwu : IntKind.u8.wrap x = y := by rw [IntKind.wrap_u8]; exact hxu
              have hwu2 : IntKind.i64.wrap y = y := IntWalk.i64_in _ (by omega)
              have hj0 : (0 : Int) ≤ (a : Int) := by omega
              have hj1 : (a : Int) < (j : Int) := by omega
              have hjw : IntKind.i64.wrap ((a : Int) + 1) = (a : Int) + 1 := IntWalk.i64_in _ (by have := HNN.out; omega)
              have rmx := fun (ts : Array TypeId) (t : TypeId) w => run_mx (P := Tryz.prog) ts t x (-2147483647) va hxv w
              have d0 := HT2.out.d.cell 0
              have d1 := HT2.out.d.cell 1
              have d2 := HT2.out.d.cell 2
              have d3 := HT2.out.d.cell 3
              have d4 := HT2.out.d.cell 4
              simp only [List.getElem?_toArray, List.getElem?_cons_zero, List.getElem?_cons_succ] at d0 d1 d2 d3 d4
              have HC1 := Lib.hid (HT2.out.x_d HT1.out HVR.out hlt2 (by have := HNN.out; omega) (HKL.out k HKM.out))
              rw [hva] at HC1
              have HVA := Lib.hid hva
              have HUA := Lib.hid hy
              clear hx hxr hb0 hxv hxu hva hy
              go_wp2_with fail
              refine HC1.out.mono ?_
              rintro r w5 ⟨n5, e5, rfl, hn5, h5⟩
              have H5 := Lib.hid h5
              have HE5 := Lib.hid h5.err_x
              have HN5 := Lib.hid hn5
              clear h5 hn5 HC1 d0 d1 d2 d3 d4
              go_wp2_with fail
              refine HE5.out.mono ?_
              rintro r wz ⟨rfl, hwz⟩
              rw [hwz]
              clear hwz wz HE5
              have d0 := H5.out.d.cell 0
              have d1 := H5.out.d.cell 1
              have d2 := H5.out.d.cell 2
              have d3 := H5.out.d.cell 3
              have d4 := H5.out.d.cell 4
              simp only [List.getElem?_toArray, List.getElem?_cons_zero, List.getElem?_cons_succ] at d0 d1 d2 d3 d4
              have HC2 := Lib.hid (H5.out.y_d HT1.out HVR.out hlt2 (by have := HNN.out; omega) (by have := HNN.out; omega))
              have HGO : Hid (∀ (n e6 : Int), (e6 = 0 → n = zs.getD a 0 ∧ a < zs.length) → e6 = 0 → n = y) := fun n e6 h h0 => by
                obtain ⟨h1, h2⟩ := h h0
                rw [h1, HZU.out a (by have := HZL.out; omega), HUA.out]
              have hbb : ∀ e : Int, e = 0 ∨ (e == 0) = false := fun e => by
                by_cases h : e = 0
                · exact .inl h
                · exact .inr (by simpa using h)
              rcases hbb e5 with he5 | he5
              · obtain rfl : n5 = va := HN5.out he5
                subst he5
                clear HN5
                go_wp2_with fail
                refine HC2.out.mono ?_
                rintro r w6 ⟨n6, e6, rfl, h6⟩
                have H6 := Lib.hid h6
                have HC3 := Lib.hid (h6.y_f HT1.out HZB.out (by have := HNN.out; omega) (by have := HNN.out; omega))
                have f0 := h6.f.cell 0
                have f1 := h6.f.cell 1
                have f2 := h6.f.cell 2
                have f3 := h6.f.cell 3
                have f4 := h6.f.cell 4
                simp only [List.getElem?_toArray, List.getElem?_cons_zero, List.getElem?_cons_succ] at f0 f1 f2 f3 f4
                clear h6 HC2 d0 d1 d2 d3 d4
                go_wp2_with fail
                refine HC3.out.mono ?_
                rintro r w7 ⟨n7, e7, rfl, hn7, h7⟩
                have H7 := Lib.hid h7
                have HE7 := Lib.hid h7.err_y
                have HN7 := Lib.hid (HGO.out n7 e7 hn7)
                clear h7 hn7 HC3 f0 f1 f2 f3 f4
                go_wp2_with fail
                refine HE7.out.mono ?_
                rintro r wz ⟨rfl, hwz⟩
                rw [hwz]
                clear hwz wz HE7
                rcases hbb e7 with he7 | he7
                · obtain rfl : n7 = y := HN7.out he7
                  subst he7
                  go_wp2
                  exact ⟨⟨a + 1, _, _, by go_num, by omega, H7⟩, by simp [intOf]; omega⟩
                · go_wp2
                  exact ⟨⟨a + 1, _, _, by go_num, by omega, H7⟩, by simp [intOf]; omega⟩
              · clear HN5
                go_wp2_with fail
                refine HC2.out.mono ?_
                rintro r w6 ⟨n6, e6, rfl, h6⟩
                have H6 := Lib.hid h6
                have HC3 := Lib.hid (h6.y_f HT1.out HZB.out (by have := HNN.out; omega) (by have := HNN.out; omega))
                have f0 := h6.f.cell 0
                have f1 := h6.f.cell 1
                have f2 := h6.f.cell 2
                have f3 := h6.f.cell 3
                have f4 := h6.f.cell 4
                simp only [List.getElem?_toArray, List.getElem?_cons_zero, List.getElem?_cons_succ] at f0 f1 f2 f3 f4
                clear h6 HC2 d0 d1 d2 d3 d4
                go_wp2_with fail
                refine HC3.out.mono ?_
                rintro r w7 ⟨n7, e7, rfl, hn7, h7⟩
                have H7 := Lib.hid h7
                have HE7 := Lib.hid h7.err_y
                have HN7 := Lib.hid (HGO.out n7 e7 hn7)
                clear h7 hn7 HC3 f0 f1 f2 f3 f4
                go_wp2_with fail
                refine HE7.out.mono ?_
                rintro r wz ⟨rfl, hwz⟩
                rw [hwz]
                clear hwz wz HE7
                rcases hbb e7 with he7 | he7
                · obtain rfl : n7 = y := HN7.out he7
                  subst he7
                  go_wp2
                  exact ⟨⟨a + 1, _, _, by go_num, by omega, H7⟩, by simp [intOf]; omega⟩
                · go_wp2
                  exact ⟨⟨a + 1, _, _, by go_num, by omega, H7⟩, by simp [intOf]; omega⟩
            · obtain rfl : a = j := by omega
              have HE1 := Lib.hid HT2.out.err_x
              have HE2 := Lib.hid HT2.out.err_y
              obtain ⟨rfl, rfl⟩ : ex = 3 ∧ ey = 3 := by
                obtain ⟨⟨Bx, By, Fx, Fy, sx, sy, Gx, Gy, Nx, Ny, h1, h2, h3, h4, h5, h6, h7, h8, h9, h10⟩, _⟩ := HT2.out
                refine ⟨?_, ?_⟩
                · by_cases h0 : ex = 0
                  · have q1 := (h7 h0).2
                    have q2 := HKM.out
                    have q3 := HYM.out
                    rw [← HYS.out] at q3
                    omega
                  · exact h8 h0
                · by_cases h0 : ey = 0
                  · have q1 := (h9 h0).2.2
                    have q2 := HCM.out
                    have q3 := HZL.out
                    omega
                  · exact h10 h0
              have HKE : Hid (Keeps (fun _ => False) w wr) := Lib.hid (HK1.out.trans (HT2.out.keeps.mono fun _ h1 h2 => by omega))
              go_wp2_with fail
              refine HE1.out.mono ?_
              rintro r wz ⟨rfl, hwz⟩
              rw [hwz]
              clear hwz wz HE1
              go_wp2_with fail
              refine HE2.out.mono ?_
              rintro r wz ⟨rfl, hwz⟩
              rw [hwz]
              clear hwz wz HE2
              go_wp2
              go_ret
              exact ⟨rfl, HKE.out⟩
end Go.Proofs.YtgaofnmgdefdcaaGreatDoor.Le
