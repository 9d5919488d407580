/- The walk of LensEnds: any bytes, any ways. The condition: strconv's table of tens reads as its text lays it. -/
import Derived.Test.YtgaofnmgdefdcaaGreatDoorJLnEndAwake11
import Derived.Test.YtgaofnmgdefdcaaGreatDoorJLnBytesLnArr
import Derived.Test.YtgaofnmgdefdcaaGreatDoorJDsChkDsPut
import Derived.Deep.CutRange
import Derived.Deep.CutBlock
namespace Go.Proofs.YtgaofnmgdefdcaaGreatDoor.Le
open Go.RowKit Go.Proofs.YtgaofnmgdefdcaaGreatDoor.Gen Go.Proofs.YtgaofnmgdefdcaaGreatDoor.Mp Go.Proofs.YtgaofnmgdefdcaaGreatDoor.Cm Go.Proofs.YtgaofnmgdefdcaaGreatDoor.Hr Go.Proofs.YtgaofnmgdefdcaaGreatDoor.Hn Go.Proofs.YtgaofnmgdefdcaaGreatDoor.Hk Go.Proofs.YtgaofnmgdefdcaaGreatDoor.Ln Go.Proofs.YtgaofnmgdefdcaaGreatDoor.Ds Go.Proofs.YtgaofnmgdefdcaaGreatDoor.Ky Go.Proofs.YtgaofnmgdefdcaaGreatDoor.Wr Go.Proofs.YtgaofnmgdefdcaaGreatDoor.Ir Go.Proofs.YtgaofnmgdefdcaaGreatDoor.Br Go.Proofs.YtgaofnmgdefdcaaGreatDoor.Qh Go.Proofs.YtgaofnmgdefdcaaGreatDoor.Qs Go.Proofs.YtgaofnmgdefdcaaGreatDoor.Qf Go.Proofs.YtgaofnmgdefdcaaGreatDoor.Qc

/-- What is wanted of what is left. -/
def wantE (bs : List Int) : Int := if bs = [] then 0 else 10
theorem ends_x {bs : List Int} {k : Nat} {E : Int} (h : EndR ⟨[], 0, false⟩ (oneG k ⟨bs, 0, 0⟩) 0 E) : E = wantE bs := by
  have hf : BS.fin ⟨[], 0, false⟩ = 0 := by decide
  have hr : RS.fin ⟨bs, 0, 0⟩ = wantE bs := by
    unfold RS.fin wantE
    cases bs with
    | nil => rfl
    | cons x l => simp
  rcases h with ⟨h, _⟩ | ⟨_, h, _⟩ | ⟨_, _, ⟨h, h2⟩ | ⟨i, r, h1, h2, h3⟩⟩
  · exact absurd rfl h
  · exact absurd hf h
  · have := h2 k ⟨bs, 0, 0⟩ (if_pos rfl)
    rw [h, ← hr, this]
  · unfold oneG at h1
    split at h1
    · injection h1 with h1
      subst h1
      rw [h3, hr]
    · cases h1
theorem ends_y {bs : List Int} {E : Int} (h : EndR ⟨bs, 0, false⟩ (fun _ => none) 0 E) : E = wantE bs := by
  have hf : BS.fin ⟨bs, 0, false⟩ = wantE bs := by
    unfold BS.fin wantE
    cases bs with
    | nil => decide
    | cons x l =>
      rw [if_neg (by simp), if_pos (.inl (by simp; omega)), if_neg (by simp)]
  rcases h with ⟨h, _⟩ | ⟨_, h1, h2⟩ | ⟨_, h1, ⟨h, h2⟩ | ⟨i, r, h1, _⟩⟩
  · exact absurd rfl h
  · rw [h2, hf]
  · rw [h, ← hf, h1]
  · cases h1
theorem none_out {s s' : BS} {G G' : Rs} {i : Nat} {n e : Int} (h : WithinR ⟨1, i, [], 0, 0⟩ s G 0 (-2147483647) 2147483647 n e s' G') (hi : 1 ≤ i ∧ i ≤ 256) (hG : G i = none) : e = 11 := by
  have hck : chkI ⟨1, (i : Int), [], 0, 0⟩ = 0 := by
    unfold chkI blkE
    simp
    omega
  rcases h with ⟨h0, _⟩ | ⟨_, s1, ⟨m, e1', hn, hc⟩, hs⟩
  · exact absurd rfl h0
  rcases hn with ⟨h0, _⟩ | ⟨_, _, h1, h2⟩ | ⟨_, h3, _⟩ | ⟨_, h3, _⟩
  · exact absurd hck h0
  · unfold OutR at h2
    rw [show (⟨1, (i : Int), [], 0, 0⟩ : D).B.toNat = i from Int.toNat_natCast i, hG] at h2
    obtain ⟨_, h4, _⟩ := h2
    subst h4
    rcases hc with ⟨_, _, h⟩ | ⟨h, _⟩ | ⟨h, _⟩
    · exact h
    · exact absurd h (by decide)
    · exact absurd h (by decide)
  · exact absurd h3 (by show ¬ (1 : Int) = 3; decide)
  · exact absurd h3 (by show ¬ (1 : Int) = 6; decide)
theorem chk_int {d : D} {s s' : BS} {G G' : Rs} {fr up n e : Int} (h : WithinR d s G 0 fr up n e s' G') (hd : chkI d ≠ 0) : e = chkI d := by
  rcases h with ⟨h0, _⟩ | ⟨_, s1, ⟨m, e1', hn, hc⟩, hs⟩
  · exact absurd rfl h0
  rcases hn with ⟨_, _, h1, _⟩ | ⟨h1, _⟩ | ⟨h1, _⟩ | ⟨h1, _⟩
  · rcases hc with ⟨_, _, h⟩ | ⟨h, _⟩ | ⟨h, _⟩
    · rw [h, h1]
    · exact absurd (h1.symm.trans h) hd
    · exact absurd (h1.symm.trans h) hd
  · exact absurd h1 hd
  · exact absurd h1 hd
  · exact absurd h1 hd
theorem chk_arr {a : E} {s s' : BS} {G G' : Rs} {ys : List Int} {e : Int} (h : ArrR a s G 0 ys e s' G') (hd : chkA a ≠ 0) : e = chkA a := by
  rcases h with ⟨h0, _⟩ | ⟨_, s1, hn, hs⟩
  · exact absurd rfl h0
  rcases hn with ⟨_, _, h1, _⟩ | ⟨h1, _⟩ | ⟨h1, _⟩
  · exact h1
  · exact absurd h1 hd
  · exact absurd h1 hd

theorem err_c {g : Nat} {e : Int} (w : World) (h3 : w.cell? ⟨g, 3, none⟩ = some (.int .i64 e)) : Calls Tryz.prog 26 #[.pointer (some ⟨g, 0, none⟩)] w fun r w' => r = .returned (.int .i64 e) ∧ w' = w := by
  go_enter Tryz.func26, Tryz.ntmps26
  go_wp2
  go_ret
  exact ⟨rfl, rfl⟩

set_option maxHeartbeats 16000000 in
set_option maxRecDepth 100000 in
theorem ends_ (A0 A A' : Option Addr) (n0 n n' c0 c c' : Nat) (id : Int) (bs : List Int) (d : D) (a : E) (w : World) (ht : Tab w.heap.size w) (hid : 0 ≤ id ∧ id < 256)
    (hm : bs.length = n0) (hl : Lies w A0 bs) (hby : ∀ y ∈ bs, 0 ≤ y ∧ y < 256) (hL : n ≤ 100 → Ents w A n d.L) (hL' : n' ≤ 100 → Ents w A' n' a.d.L) (hf : ∀ y ∈ d.L, Fits y) (hf' : ∀ y ∈ a.d.L, Fits y) (hS : 0 ≤ a.S ∧ a.S < 256)
    (hE : ∀ b o, n ≤ 100 → 0 < n → A = some ⟨b, o, none⟩ → b < w.heap.size) (hE' : ∀ b o, n' ≤ 100 → 0 < n' → A' = some ⟨b, o, none⟩ → b < w.heap.size) :
    Calls Tryz.prog 6 #[.slice A0 n0 c0, .int .u8 id, .agg (dv A n c d), .agg (av A' n' c' a)] w fun r w' => r = .returned (.bool true) ∧ Keeps (fun _ => False) w w' := by
  obtain ⟨k, hkid⟩ := Int.eq_ofNat_of_zero_le hid.1
  subst hkid
  obtain ⟨W, hW⟩ : ∃ W, W = (w.alloc (.cells (dv A n c d) 43)).alloc (.cells (av A' n' c' a) 45) := ⟨_, rfl⟩
  obtain ⟨q0, hq0⟩ : ∃ q0, q0 = w.heap.size := ⟨_, rfl⟩
  obtain ⟨q1, hq1⟩ : ∃ q1, q1 = w.heap.size + 1 := ⟨_, rfl⟩
  have hk1 : Keeps (fun _ => False) w W := by rw [hW]; exact ((Keeps.refl _ _).alloc _).alloc _
  have HX0 : Hid (Blk W q0 43 (dv A n c d)) := by show Blk _ _ _ _; rw [hW, hq0]; exact (Blk.new _ _ _).alloc _
  have HX1 : Hid (Blk W q1 45 (av A' n' c' a)) := by
    show Blk _ _ _ _
    rw [hW, hq1]
    have h := Blk.new (w.alloc (.cells (dv A n c d) 43)) 45 (av A' n' c' a)
    have e : (w.alloc (.cells (dv A n c d) 43)).heap.size = w.heap.size + 1 := by simp
    rw [e] at h
    exact h
  have HK1 := Lib.hid hk1
  have HT : Hid (Tab W.heap.size W) := Tab_rise (ht.more (Nat.le_refl _) hk1) hk1.size
  have HAW := Lib.hid (awake W HT.out)
  have HL := Lib.hid hL
  have HL' := Lib.hid hL'
  have HF := Lib.hid hf
  have HF' := Lib.hid hf'
  have HS := Lib.hid hS
  have HEB := Lib.hid hE
  have HEB' := Lib.hid hE'
  have HLI := Lib.hid hl
  have HBY := Lib.hid hby
  have HMM := Lib.hid hm
  have HC0 := Lib.hid (fun W2 (h : Ents W2 A n d.L) => check_i A n c d W2 h)
  have HC1 := Lib.hid (fun W2 (h : Ents W2 A' n' a.d.L) => check_a A' n' c' a W2 h)
  obtain ⟨e, he⟩ : ∃ e, chkI d = e := ⟨_, rfl⟩
  obtain ⟨f, hf0⟩ : ∃ f, chkA a = f := ⟨_, rfl⟩
  have HCE := Lib.hid he
  have HCF := Lib.hid hf0
  rw [he] at HC0
  rw [hf0] at HC1
  have HKK : Hid (k < 256) := by show k < 256; omega
  clear hL hL' hf hf' hl hby hm hk1 ht he hf0 hS hE hE' hid
  have HDD : Hid (∀ w1 F G N s er B g, Tab B w1 → Lz B g F s G N er w1 → N ≤ 1000 → Ents w1 A n d.L → (0 < n → ∀ b x, A = some ⟨b, x, none⟩ → ¬ F b) → Calls Tryz.prog 28 #[.pointer (some ⟨g, 0, none⟩), .agg (dv A n c d)] w1 fun r w' => ∃ F' n' e' s' G', r = .returned (.int .i64 n') ∧ Lz B g F' s' G' (N + 1) e' w' ∧ Step F F' w1 w' ∧ WithinR d s G er (-2147483647) 2147483647 n' e' s' G') :=
    fun w1 F G N s er B g h1 h2 h3 h4 h5 => int_ A n c d w1 h1 h2 h3 h4 HF.out h5
  have HAA : Hid (∀ w1 F G N s er B g, Tab B w1 → Lz B g F s G N er w1 → N ≤ 1000 → Ents w1 A' n' a.d.L → (0 < n' → ∀ b x, A' = some ⟨b, x, none⟩ → ¬ F b) → Calls Tryz.prog 24 #[.pointer (some ⟨g, 0, none⟩), .agg (av A' n' c' a)] w1 fun r w' => ∃ F' A2 n2 c2 ys e' s' G', r = .returned (.slice A2 n2 c2) ∧ ys.length = n2 ∧ Lies w' A2 ys ∧ (∀ b x, A2 = some ⟨b, x, none⟩ → ¬ F' b) ∧ Lz B g F' s' G' (N + 1) e' w' ∧ Step F F' w1 w' ∧ ArrR a s G er ys e' s' G') :=
    fun w1 F G N s er B g h1 h2 h3 h4 h5 => array_ A' n' c' a w1 h1 h2 h3 h4 HF'.out h5 HS.out
  obtain ⟨K, Bl, L, le, bi⟩ := d
  obtain ⟨⟨K1, B1, L1, le1, bi1⟩, K2, B2, S2⟩ := a
  have hmm := @run_makeMap Tryz.prog
  unfold dv at HX0 hW HC0 HDD ⊢
  unfold av at HX1 hW HC1 HAA ⊢
  simp only at HX0 HX1 hW HC0 HC1 HDD HAA HL HL' HCE HCF ⊢
  go_enter Tryz.func6, Tryz.ntmps6
  go_wp2_with fail
  rw [← hq1, ← hq0, ← hW]
  clear hq0 hq1 hW
  refine HAW.out.mono ?_
  rintro r w1 ⟨rfl, hk2⟩
  have HKW := Lib.hid (HK1.out.trans hk2)
  have HT1 : Hid (Tab w1.heap.size w1) := Tab_rise (HT.out.more (Nat.le_refl _) hk2) hk2.size
  have HG : Hid (∀ W1, Keeps (fun _ => False) w1 W1 → (W1.cell? ⟨q0, 0, none⟩ = some (.int .u8 K) ∧ W1.cell? ⟨q0, 1, none⟩ = some (.int .i64 Bl) ∧ W1.cell? ⟨q0, 2, none⟩ = some (.slice A n c) ∧ W1.cell? ⟨q0, 3, none⟩ = some (.int .i64 le) ∧ W1.cell? ⟨q0, 4, none⟩ = some (.int .i64 bi) ∧
      W1.cell? ⟨q1, 0, none⟩ = some (.int .u8 K1) ∧ W1.cell? ⟨q1, 1, none⟩ = some (.int .i64 B1) ∧ W1.cell? ⟨q1, 2, none⟩ = some (.slice A' n' c') ∧ W1.cell? ⟨q1, 3, none⟩ = some (.int .i64 le1) ∧ W1.cell? ⟨q1, 4, none⟩ = some (.int .i64 bi1) ∧ W1.cell? ⟨q1, 5, none⟩ = some (.int .u8 K2) ∧ W1.cell? ⟨q1, 6, none⟩ = some (.int .i64 B2) ∧ W1.cell? ⟨q1, 7, none⟩ = some (.int .u8 S2))) := by
    intro W1 k3
    have h0 := (HX0.out.keeps hk2 id).keeps k3 id
    have h1 := (HX1.out.keeps hk2 id).keeps k3 id
    exact ⟨h0.cell 0, h0.cell 1, h0.cell 2, h0.cell 3, h0.cell 4, h1.cell 0, h1.cell 1, h1.cell 2, h1.cell 3, h1.cell 4, h1.cell 5, h1.cell 6, h1.cell 7⟩
  obtain ⟨a0, a1, a2, a3, a4, b0, b1, b2, b3, b4, b5, b6, b7⟩ := HG.out w1 (Keeps.refl _ _)
  clear hk2 HAW HX0 HX1 HT HK1
  by_cases hn0 : (100 : Int) < (n0 : Int)
  · go_wp2
    go_ret
    exact ⟨rfl, HKW.out⟩
  by_cases hn1 : (100 : Int) < (n : Int)
  · go_wp2
    go_ret
    exact ⟨rfl, HKW.out⟩
  by_cases hn2 : (100 : Int) < (n' : Int)
  · go_wp2
    go_ret
    exact ⟨rfl, HKW.out⟩
  have HEN := Lib.hid (HL.out (by omega))
  have HEN' := Lib.hid (HL'.out (by omega))
  have HN0 : Hid (n0 ≤ 100) := by show n0 ≤ 100; omega
  have HN1 : Hid (n ≤ 100) := by show n ≤ 100; omega
  have HN2 : Hid (n' ≤ 100) := by show n' ≤ 100; omega
  obtain ⟨kk, hkk⟩ : ∃ kk, kk = k + 1 := ⟨_, rfl⟩
  have hwk : IntKind.i64.wrap (1 + (k : Int)) = (kk : Int) := by rw [IntWalk.i64_in _ (by have := HKK.out; omega)]; omega
  have hw1 : wrap64 (k : Int) = (k : Int) := by unfold wrap64; have := HKK.out; omega
  have hw2 : wrap64 (1 + (k : Int)) = (kk : Int) := by unfold wrap64; have := HKK.out; omega
  have HKR : Hid (1 ≤ kk ∧ kk ≤ 256) := by have := HKK.out; show _ ∧ _; omega
  clear hkk
  have hk0 : Keeps (fun _ => False) w1 (w1.alloc (.map #[] 0)) := (Keeps.refl _ _).alloc _
  obtain ⟨W1, hrun, hu, hk1⟩ := Qi.IsF.update_run int_ks (IsF.new Tryz.prog 3 60001 ikl w1) Tryz.underlying28 (by omega) (show kk < 60001 by have := HKR.out; omega) (.slice A0 n0 c0)
  have hrun2 : (Instr.mapUpdate 28 (.map (some w1.heap.size)) (.int .i64 (kk : Int)) (.slice A0 n0 c0)).run Tryz.prog (w1.alloc (.map #[] 0)) = .ok () W1 := hrun
  have hkW : Keeps (fun _ => False) w1 W1 := keeps_low hk0 hk1 fun x hx => by omega
  have HLW := Lib.hid (HLI.out.keeps (HKW.out.trans hkW) fun _ _ _ => id)
  have HNW := Lib.hid (new_m none 0 0 [] w1.heap.size (oneV kk bs) (fun _ => A0) (fun _ => c0) W1 rfl (.inl rfl) (by omega) (by simp) (one_map HMM.out hu) (fun i l h => by
    unfold oneV at h
    split at h
    · injection h with h
      subst h
      exact ⟨HLW.out, by have h1 := HMM.out; have h2 := HN0.out; omega, HBY.out⟩
    · cases h) (fun i hi => if_neg (by have := HKR.out; omega)))
  rw [oneV_G] at HNW
  have HKV := Lib.hid hkW
  clear hrun hu hk0 hk1 hkW
  go_wp2_with fail
  refine HNW.out.mono ?_
  rintro r w2 ⟨gx, Fx, rfl, hx, hk2⟩
  have HK2 := Lib.hid (HKV.out.trans hk2)
  have HEX := Lib.hid (fun W (k : Keeps (fun _ => False) w2 W) => end_z W (hx.more k))
  have HNY := Lib.hid (fun W (k : Keeps (fun _ => False) w1 W) => new_nil A0 n0 c0 bs W HMM.out (HLI.out.keeps (HKW.out.trans k) fun _ _ _ => id) (by have h2 := HN0.out; omega) HBY.out)
  have HNZ := Lib.hid (fun W => new_nil none 0 0 [] W rfl (.inl rfl) (by omega) (by simp))
  clear hx hk2 HNW HKV hrun2
  go_wp2_with fail
  refine (HNY.out w2 HK2.out).mono ?_
  rintro r w3 ⟨gy, Fy, rfl, hy, hk3⟩
  have HK23 := Lib.hid hk3
  have HK3 := Lib.hid (HK2.out.trans hk3)
  have HEY := Lib.hid (fun W (k : Keeps (fun _ => False) w3 W) => end_z W (hy.more k))
  clear hy hk3 HK2
  obtain ⟨wv, hwv⟩ : ∃ wv, wantE bs = wv := ⟨_, rfl⟩
  have HWV := Lib.hid hwv
  clear hwv
  obtain ⟨bq, hbq⟩ : ∃ bq, decide ((0 : Int) < (n0 : Int)) = bq := ⟨_, rfl⟩
  obtain ⟨bq', hbq'⟩ : ∃ bq, decide (0 < n0) = bq := ⟨_, rfl⟩
  have HQQ : Hid (bq' = bq) := by
    show _ = _
    rw [← hbq, ← hbq', decide_eq_decide]
    omega
  have HBQ : Hid (wv = if bq' = true then 10 else 0) := by
    show _ = _
    have h1 := HMM.out
    rw [← HWV.out, ← hbq']
    unfold wantE
    cases bs with
    | nil => simp at h1; simp [h1.symm]
    | cons x l => simp at h1; rw [if_neg (by simp), if_pos (by simp; omega)]
  obtain rfl := HQQ.out
  go_upto_if 47 with fail
  clear hbq hbq'
  go_cut [12] from 48 to 48 (fun v wx => v = .int .i64 wv ∧ wx = w3)
  case first =>
    cases bq' with
    | true =>
      have HV : Hid (wv = 10) := HBQ
      go_wp2
      go_meet
      case rel => exact ⟨by rw [HV.out], rfl⟩
    | false =>
      have HV : Hid (wv = 0) := HBQ
      go_wp2
      go_meet
      case rel => exact ⟨by rw [HV.out], rfl⟩
  case rest =>
    obtain ⟨rfl, rfl⟩ := hcut
    have HNU := HNY
    have HNV := HNY
    clear HNY HBQ HQQ
    have dwv : (wv != wv) = false := by simp
    go_wp2_with (first
      | (have H := HEX; go_at_call 27; refine (H.out _ HK23.out).mono ?_; rintro r w4 ⟨E4, rfl, hE4, hk4⟩; have e4 := (ends_x hE4).trans HWV.out; subst e4; have HK34 := Lib.hid hk4; clear hE4 hk4 HEX HK23)
      | (have H := HEY; go_at_call 27; refine (H.out _ HK34.out).mono ?_; rintro r w5 ⟨E5, rfl, hE5, hk5⟩; have e5 := (ends_y hE5).trans HWV.out; subst e5; have HK5 := Lib.hid ((HK3.out.trans HK34.out).trans hk5); clear hE5 hk5 HEY)
      | (have H := HNZ; go_at_call 22; refine (H.out _).mono ?_; rintro r w6 ⟨gz, Fz, rfl, hz6, hk6⟩; have HK6 := Lib.hid (HK5.out.trans hk6); have HS56 : Hid (w5.heap.size ≤ w6.heap.size ∧ w1.heap.size ≤ w5.heap.size) := ⟨hk6.size, HK5.out.size⟩; have HLZ := Lib.hid hz6.lt; have HIZ := Lib.hid (int_ none 0 0 ⟨1, kk, [], 0, 0⟩ w6 (Tab_rise (HT1.out.more (Nat.le_refl _) HK6.out) HK5.out.size) hz6 (by omega) ⟨.inl rfl, rfl, by omega⟩ (by simp) (fun h => by omega)); unfold dv at HIZ; clear hz6 hk6 HNZ)
      | (have H := HIZ; go_at_call 28; refine H.out.mono ?_; rintro r w7 ⟨F7, n7, e7, s7, G7, rfl, h7, hs7, hr7⟩; have e11 := none_out hr7 HKR.out rfl; subst e11; have HK7 : Hid (Keeps (fun _ => False) w1 w7) := keeps_low HK6.out hs7.keeps (fun x hx => by have h1 := (HLZ.out x hx).1; have h2 := HS56.out; omega); have HZ7 : Hid (w7.cell? ⟨gz, 3, none⟩ = some (.int .i64 11) ∧ gz < w7.heap.size) := ⟨h7.errCell, (h7.lt gz h7.own).2⟩; clear h7 hs7 hr7 HIZ)
      | (have H := HNU; have KK := HK7; go_at_call 22; refine (H.out _ KK.out).mono ?_; rintro r w8 ⟨gu, Fu, rfl, hu8, hk8⟩; have HK8 := Lib.hid (KK.out.trans hk8); obtain ⟨c0_8, c1_8, c2_8, c3_8, c4_8, c5_8, c6_8, c7_8, c8_8, c9_8, c10_8, c11_8, c12_8⟩ := HG.out w8 HK8.out; have HZ8 : Hid (w8.cell? ⟨gz, 3, none⟩ = some (.int .i64 11) ∧ gz < w7.heap.size) := ⟨(hk8.cell (p := ⟨gz, 3, none⟩) HZ7.out.2 id).trans HZ7.out.1, HZ7.out.2⟩; have HLU := Lib.hid hu8.lt; have HSU : Hid (w.heap.size ≤ w1.heap.size ∧ w1.heap.size ≤ w7.heap.size ∧ w7.heap.size ≤ w8.heap.size) := ⟨HKW.out.size, HK7.out.size, hk8.size⟩; have HIU := Lib.hid (HDD.out w8 Fu _ 0 _ 0 w7.heap.size gu (Tab_rise (HT1.out.more (Nat.le_refl _) HK8.out) HK7.out.size) hu8 (by omega) (HEN.out.more (HKW.out.trans HK8.out)) (fun h0 b x e hF => by have h1 := HEB.out b x HN1.out h0 e; have h2 := (HLU.out b hF).1; have h3 := HSU.out; omega)); clear hu8 hk8 HNU)
      | (have H := HIU; go_at_call 28; refine H.out.mono ?_; rintro r w9 ⟨F9, n9, e9, s9, G9, rfl, h9, hs9, hr9⟩; have HUE : Hid (e ≠ 0 → e9 = e) := fun h => (chk_int hr9 (by rw [HCE.out]; exact h)).trans HCE.out; have HK9 : Hid (Keeps (fun _ => False) w1 w9) := keeps_low HK8.out hs9.keeps (fun x hx => by have h1 := (HLU.out x hx).1; have h2 := HSU.out; omega); have HZ9 : Hid (w9.cell? ⟨gz, 3, none⟩ = some (.int .i64 11) ∧ gz < w9.heap.size) := ⟨(hs9.keeps.cell (p := ⟨gz, 3, none⟩) (by have h1 := HZ8.out.2; have h2 := HSU.out; show gz < _; omega) (fun hF => by have h1 := (HLU.out gz hF).1; have h2 := HZ8.out.2; omega)).trans HZ8.out.1, by have h1 := HZ8.out.2; have h2 := HSU.out; have h3 := hs9.keeps.size; omega⟩; have HU9 : Hid (w9.cell? ⟨gu, 3, none⟩ = some (.int .i64 e9) ∧ gu < w9.heap.size) := ⟨h9.errCell, (h9.lt gu h9.own).2⟩; clear h9 hs9 hr9 HIU)
      | (have H := HNV; have KK := HK9; go_at_call 22; refine (H.out _ KK.out).mono ?_; rintro r w10 ⟨gv, Fv, rfl, hv10, hk10⟩; have HK10 := Lib.hid (KK.out.trans hk10); obtain ⟨c0_10, c1_10, c2_10, c3_10, c4_10, c5_10, c6_10, c7_10, c8_10, c9_10, c10_10, c11_10, c12_10⟩ := HG.out w10 HK10.out; have HZ10 : Hid ((w10.cell? ⟨gz, 3, none⟩ = some (.int .i64 11) ∧ gz < w9.heap.size) ∧ (w10.cell? ⟨gu, 3, none⟩ = some (.int .i64 e9) ∧ gu < w9.heap.size)) := ⟨⟨(hk10.cell (p := ⟨gz, 3, none⟩) HZ9.out.2 id).trans HZ9.out.1, HZ9.out.2⟩, ⟨(hk10.cell (p := ⟨gu, 3, none⟩) HU9.out.2 id).trans HU9.out.1, HU9.out.2⟩⟩; have HLV := Lib.hid hv10.lt; have HSV : Hid (w.heap.size ≤ w1.heap.size ∧ w1.heap.size ≤ w9.heap.size ∧ w9.heap.size ≤ w10.heap.size) := ⟨HKW.out.size, HK9.out.size, hk10.size⟩; have HAV := Lib.hid (HAA.out w10 Fv _ 0 _ 0 w9.heap.size gv (Tab_rise (HT1.out.more (Nat.le_refl _) HK10.out) HK9.out.size) hv10 (by omega) (HEN'.out.more (HKW.out.trans HK10.out)) (fun h0 b x e hF => by have h1 := HEB'.out b x HN2.out h0 e; have h2 := (HLV.out b hF).1; have h3 := HSV.out; omega)); clear hv10 hk10 HNV)
      | (have H := HAV; go_at_call 24; refine H.out.mono ?_; rintro r w11 ⟨F11, A11, n11, c11, ys11, e11, s11, G11, rfl, hn11, hl11, hb11, h11, hs11, hr11⟩; have HVE : Hid (f ≠ 0 → e11 = f) := fun h => (chk_arr hr11 (by rw [HCF.out]; exact h)).trans HCF.out; have HK11 : Hid (Keeps (fun _ => False) w1 w11) := keeps_low HK10.out hs11.keeps (fun x hx => by have h1 := (HLV.out x hx).1; have h2 := HSV.out; omega); have HEZ := Lib.hid (fun W (k : Keeps (fun _ => False) w11 W) => err_c W ((k.cell (p := ⟨gz, 3, none⟩) (by have h1 := HZ10.out.1.2; have h2 := HSV.out; have h3 := hs11.keeps.size; show gz < _; omega) id).trans ((hs11.keeps.cell (p := ⟨gz, 3, none⟩) (by have h1 := HZ10.out.1.2; have h2 := HSV.out; show gz < _; omega) (fun hF => by have h1 := (HLV.out gz hF).1; have h2 := HZ10.out.1.2; omega)).trans HZ10.out.1.1))); have HEU := Lib.hid (fun W (k : Keeps (fun _ => False) w11 W) => err_c W ((k.cell (p := ⟨gu, 3, none⟩) (by have h1 := HZ10.out.2.2; have h2 := HSV.out; have h3 := hs11.keeps.size; show gu < _; omega) id).trans ((hs11.keeps.cell (p := ⟨gu, 3, none⟩) (by have h1 := HZ10.out.2.2; have h2 := HSV.out; show gu < _; omega) (fun hF => by have h1 := (HLV.out gu hF).1; have h2 := HZ10.out.2.2; omega)).trans HZ10.out.2.1))); have HEV := Lib.hid (fun W (k : Keeps (fun _ => False) w11 W) => err_ W (h11.more k)); have KC : Hid (Keeps (fun _ => False) w11 w11.drew) := (Keeps.refl (fun _ => False) w11).drewN 1; obtain ⟨c0_11, c1_11, c2_11, c3_11, c4_11, c5_11, c6_11, c7_11, c8_11, c9_11, c10_11, c11_11, c12_11⟩ := HG.out w11 HK11.out; clear hn11 hl11 hb11 h11 hs11 hr11 HAV))
    refine (wrong_nil 19 w11).mono ?_
    rintro r w12 ⟨rfl, hw12⟩
    rw [hw12]
    clear hw12
    by_cases he0 : e = 0
    · by_cases hf0 : f = 0
      · as_aux_lemma =>
          subst he0
          subst hf0
          clear HUE HVE
          go_upto_region 21 with fail
          refine wp_region_noPanic ?_
          refine wp_region_held_drew (S := fun w' => Keeps (fun _ => False) w11 w') (by kernel_rfl) KC.out (fun hHeld => ?_)
          refine wpAnyH_take (i := 0) (v := ?vz0d) rfl (by kernel_rfl) (by kernel_rfl) (by kernel_rfl) (fun _ _ _ h => h) (Or.inl ⟨by rfl, ?yz0d⟩) hHeld ?rz0d
          case yz0d => (intro w' hSw; go_simp; try with_reducible rfl)
          simp only [Act.put, List.getElem_toArray, List.getElem_cons_succ, List.getElem_cons_zero, List.setIfInBounds_toArray, List.set_cons_zero, List.set_cons_succ]
          refine wpAnyH_ready (rs := [1]) (by kernel_rfl) (by simp) ?_
          refine AllReadyH.cons rfl (fun KR hK => ?_) AllReadyH.nil
          go_simp
          refine (HEZ.out _ hHeld).mono ?_
          rintro r wz ⟨rfl, hwz⟩
          rw [hwz]
          clear hwz wz
          dsimp only
          refine hK.out _ _ hHeld (fun hHeld => ?_)
          clear hK KR
          try simp only [Act.put, List.getElem_toArray, List.getElem_cons_succ, List.getElem_cons_zero, List.setIfInBounds_toArray, List.set_cons_zero, List.set_cons_succ]
          refine wpAnyH_take (i := 2) (v := ?vz2d) rfl (by kernel_rfl) (by kernel_rfl) (by kernel_rfl) (fun _ _ _ h => h) (Or.inl ⟨by rfl, ?yz2d⟩) hHeld ?rz2d
          case yz2d => (intro w' hSw; go_simp; try with_reducible rfl)
          simp only [Act.put, List.getElem_toArray, List.getElem_cons_succ, List.getElem_cons_zero, List.setIfInBounds_toArray, List.set_cons_zero, List.set_cons_succ]
          refine wpAnyH_take (i := 3) (v := ?vz3d) rfl (by kernel_rfl) (by kernel_rfl) (by kernel_rfl) (fun _ _ _ h => h) (Or.inl ⟨by rfl, ?yz3d⟩) hHeld ?rz3d
          case yz3d => (intro w' hSw; go_simp; try with_reducible rfl)
          simp only [Act.put, List.getElem_toArray, List.getElem_cons_succ, List.getElem_cons_zero, List.setIfInBounds_toArray, List.set_cons_zero, List.set_cons_succ]
          refine wpAnyH_take (i := 4) (v := ?vz4d) rfl (by kernel_rfl) (by kernel_rfl) (by kernel_rfl) (fun _ _ _ h => h) (Or.inl ⟨by rfl, ?yz4d⟩) hHeld ?rz4d
          case yz4d => (intro w' hSw; obtain ⟨c0, c1, c2, c3, c4, d0, d1, d2, d3, d4, d5, d6, d7⟩ := HG.out w' (HK11.out.trans hSw); go_simp; try with_reducible rfl)
          simp only [Act.put, List.getElem_toArray, List.getElem_cons_succ, List.getElem_cons_zero, List.setIfInBounds_toArray, List.set_cons_zero, List.set_cons_succ]
          refine wpAnyH_ready (rs := [5]) (by kernel_rfl) (by simp) ?_
          refine AllReadyH.cons rfl (fun KR hK => ?_) AllReadyH.nil
          go_simp
          refine (HC0.out _ (HEN.out.more (HKW.out.trans (HK11.out.trans hHeld)))).mono ?_
          rintro r x1 ⟨rfl, hk⟩
          dsimp only
          refine hK.out _ _ (hHeld.trans hk) (fun hHeld => ?_)
          clear hK KR hk
          try simp only [Act.put, List.getElem_toArray, List.getElem_cons_succ, List.getElem_cons_zero, List.setIfInBounds_toArray, List.set_cons_zero, List.set_cons_succ]
          refine wpAnyH_take (i := 6) (v := ?vz6d) rfl (by kernel_rfl) (by kernel_rfl) (by kernel_rfl) (fun _ _ _ h => h) (Or.inl ⟨by rfl, ?yz6d⟩) hHeld ?rz6d
          case yz6d => (intro w' hSw; go_simp; try with_reducible rfl)
          simp only [Act.put, List.getElem_toArray, List.getElem_cons_succ, List.getElem_cons_zero, List.setIfInBounds_toArray, List.set_cons_zero, List.set_cons_succ]
          refine wpAnyH_take (i := 7) (v := ?vz7d) rfl (by kernel_rfl) (by kernel_rfl) (by kernel_rfl) (fun _ _ _ h => h) (Or.inl ⟨by rfl, ?yz7d⟩) hHeld ?rz7d
          case yz7d => (intro w' hSw; go_simp; try with_reducible rfl)
          simp only [Act.put, List.getElem_toArray, List.getElem_cons_succ, List.getElem_cons_zero, List.setIfInBounds_toArray, List.set_cons_zero, List.set_cons_succ]
          refine wpAnyH_take (i := 8) (v := undef) rfl (by kernel_rfl) (by kernel_rfl) (by kernel_rfl) (fun _ _ _ h => h) (Or.inr ⟨by rfl, rfl⟩) hHeld ?_
          simp only [Act.put, List.getElem_toArray, List.getElem_cons_succ, List.getElem_cons_zero, List.setIfInBounds_toArray, List.set_cons_zero, List.set_cons_succ]
          refine wpAnyH_take (i := 9) (v := undef) rfl (by kernel_rfl) (by kernel_rfl) (by kernel_rfl) (fun _ _ _ h => h) (Or.inr ⟨by rfl, rfl⟩) hHeld ?_
          simp only [Act.put, List.getElem_toArray, List.getElem_cons_succ, List.getElem_cons_zero, List.setIfInBounds_toArray, List.set_cons_zero, List.set_cons_succ]
          refine wpAnyH_take (i := 10) (v := undef) rfl (by kernel_rfl) (by kernel_rfl) (by kernel_rfl) (fun _ _ _ h => h) (Or.inr ⟨by rfl, rfl⟩) hHeld ?_
          simp only [Act.put, List.getElem_toArray, List.getElem_cons_succ, List.getElem_cons_zero, List.setIfInBounds_toArray, List.set_cons_zero, List.set_cons_succ]
          refine wpAnyH_take (i := 11) (v := undef) rfl (by kernel_rfl) (by kernel_rfl) (by kernel_rfl) (fun _ _ _ h => h) (Or.inr ⟨by rfl, rfl⟩) hHeld ?_
          simp only [Act.put, List.getElem_toArray, List.getElem_cons_succ, List.getElem_cons_zero, List.setIfInBounds_toArray, List.set_cons_zero, List.set_cons_succ]
          refine wpAnyH_take (i := 12) (v := undef) rfl (by kernel_rfl) (by kernel_rfl) (by kernel_rfl) (fun _ _ _ h => h) (Or.inr ⟨by rfl, rfl⟩) hHeld ?_
          simp only [Act.put, List.getElem_toArray, List.getElem_cons_succ, List.getElem_cons_zero, List.setIfInBounds_toArray, List.set_cons_zero, List.set_cons_succ]
          refine wpAnyH_take (i := 13) (v := ?vz13d) rfl (by kernel_rfl) (by kernel_rfl) (by kernel_rfl) (fun _ _ _ h => h) (Or.inl ⟨by rfl, ?yz13d⟩) hHeld ?rz13d
          case yz13d => (intro w' hSw; go_simp; try with_reducible rfl)
          simp only [Act.put, List.getElem_toArray, List.getElem_cons_succ, List.getElem_cons_zero, List.setIfInBounds_toArray, List.set_cons_zero, List.set_cons_succ]
          refine wpAnyH_take (i := 14) (v := ?vz14d) rfl (by kernel_rfl) (by kernel_rfl) (by kernel_rfl) (fun _ _ _ h => h) (Or.inl ⟨by rfl, ?yz14d⟩) hHeld ?rz14d
          case yz14d => (intro w' hSw; go_simp; try with_reducible rfl)
          simp only [Act.put, List.getElem_toArray, List.getElem_cons_succ, List.getElem_cons_zero, List.setIfInBounds_toArray, List.set_cons_zero, List.set_cons_succ]
          refine wpAnyH_take (i := 15) (v := ?vz15d) rfl (by kernel_rfl) (by kernel_rfl) (by kernel_rfl) (fun _ _ _ h => h) (Or.inl ⟨by rfl, ?yz15d⟩) hHeld ?rz15d
          case yz15d => (intro w' hSw; go_simp; try with_reducible rfl)
          simp only [Act.put, List.getElem_toArray, List.getElem_cons_succ, List.getElem_cons_zero, List.setIfInBounds_toArray, List.set_cons_zero, List.set_cons_succ]
          refine wpAnyH_take (i := 16) (v := ?vz16d) rfl (by kernel_rfl) (by kernel_rfl) (by kernel_rfl) (fun _ _ _ h => h) (Or.inl ⟨by rfl, ?yz16d⟩) hHeld ?rz16d
          case yz16d => (intro w' hSw; obtain ⟨c0, c1, c2, c3, c4, d0, d1, d2, d3, d4, d5, d6, d7⟩ := HG.out w' (HK11.out.trans hSw); go_simp; try with_reducible rfl)
          simp only [Act.put, List.getElem_toArray, List.getElem_cons_succ, List.getElem_cons_zero, List.setIfInBounds_toArray, List.set_cons_zero, List.set_cons_succ]
          refine wpAnyH_ready (rs := [17]) (by kernel_rfl) (by simp) ?_
          refine AllReadyH.cons rfl (fun KR hK => ?_) AllReadyH.nil
          go_simp
          refine (HC1.out _ (HEN'.out.more (HKW.out.trans (HK11.out.trans hHeld)))).mono ?_
          rintro r x2 ⟨rfl, hk⟩
          dsimp only
          refine hK.out _ _ (hHeld.trans hk) (fun hHeld => ?_)
          clear hK KR hk
          try simp only [Act.put, List.getElem_toArray, List.getElem_cons_succ, List.getElem_cons_zero, List.setIfInBounds_toArray, List.set_cons_zero, List.set_cons_succ]
          refine wpAnyH_take (i := 18) (v := ?vz18d) rfl (by kernel_rfl) (by kernel_rfl) (by kernel_rfl) (fun _ _ _ h => h) (Or.inl ⟨by rfl, ?yz18d⟩) hHeld ?rz18d
          case yz18d => (intro w' hSw; go_simp; try with_reducible rfl)
          simp only [Act.put, List.getElem_toArray, List.getElem_cons_succ, List.getElem_cons_zero, List.setIfInBounds_toArray, List.set_cons_zero, List.set_cons_succ]
          refine wpAnyH_take (i := 19) (v := ?vz19d) rfl (by kernel_rfl) (by kernel_rfl) (by kernel_rfl) (fun _ _ _ h => h) (Or.inl ⟨by rfl, ?yz19d⟩) hHeld ?rz19d
          case yz19d => (intro w' hSw; go_simp; try with_reducible rfl)
          simp only [Act.put, List.getElem_toArray, List.getElem_cons_succ, List.getElem_cons_zero, List.setIfInBounds_toArray, List.set_cons_zero, List.set_cons_succ]
          refine wpAnyH_take (i := 20) (v := undef) rfl (by kernel_rfl) (by kernel_rfl) (by kernel_rfl) (fun _ _ _ h => h) (Or.inr ⟨by rfl, rfl⟩) hHeld ?_
          simp only [Act.put, List.getElem_toArray, List.getElem_cons_succ, List.getElem_cons_zero, List.setIfInBounds_toArray, List.set_cons_zero, List.set_cons_succ]
          refine wpAnyH_take (i := 21) (v := undef) rfl (by kernel_rfl) (by kernel_rfl) (by kernel_rfl) (fun _ _ _ h => h) (Or.inr ⟨by rfl, rfl⟩) hHeld ?_
          simp only [Act.put, List.getElem_toArray, List.getElem_cons_succ, List.getElem_cons_zero, List.setIfInBounds_toArray, List.set_cons_zero, List.set_cons_succ]
          refine wpAnyH_take (i := 22) (v := undef) rfl (by kernel_rfl) (by kernel_rfl) (by kernel_rfl) (fun _ _ _ h => h) (Or.inr ⟨by rfl, rfl⟩) hHeld ?_
          simp only [Act.put, List.getElem_toArray, List.getElem_cons_succ, List.getElem_cons_zero, List.setIfInBounds_toArray, List.set_cons_zero, List.set_cons_succ]
          refine wpAnyH_take (i := 23) (v := undef) rfl (by kernel_rfl) (by kernel_rfl) (by kernel_rfl) (fun _ _ _ h => h) (Or.inr ⟨by rfl, rfl⟩) hHeld ?_
          simp only [Act.put, List.getElem_toArray, List.getElem_cons_succ, List.getElem_cons_zero, List.setIfInBounds_toArray, List.set_cons_zero, List.set_cons_succ]
          refine wpAnyH_take (i := 24) (v := undef) rfl (by kernel_rfl) (by kernel_rfl) (by kernel_rfl) (fun _ _ _ h => h) (Or.inr ⟨by rfl, rfl⟩) hHeld ?_
          simp only [Act.put, List.getElem_toArray, List.getElem_cons_succ, List.getElem_cons_zero, List.setIfInBounds_toArray, List.set_cons_zero, List.set_cons_succ]
          refine wpAnyH_take (i := 25) (v := ?vz25d) rfl (by kernel_rfl) (by kernel_rfl) (by kernel_rfl) (fun _ _ _ h => h) (Or.inl ⟨by rfl, ?yz25d⟩) hHeld ?rz25d
          case yz25d => (intro w' hSw; go_simp; try with_reducible rfl)
          simp only [Act.put, List.getElem_toArray, List.getElem_cons_succ, List.getElem_cons_zero, List.setIfInBounds_toArray, List.set_cons_zero, List.set_cons_succ]
          refine wpAnyH_take (i := 26) (v := ?vz26d) rfl (by kernel_rfl) (by kernel_rfl) (by kernel_rfl) (fun _ _ _ h => h) (Or.inl ⟨by rfl, ?yz26d⟩) hHeld ?rz26d
          case yz26d => (intro w' hSw; go_simp; try with_reducible rfl)
          simp only [Act.put, List.getElem_toArray, List.getElem_cons_succ, List.getElem_cons_zero, List.setIfInBounds_toArray, List.set_cons_zero, List.set_cons_succ]
          refine wpAnyH_take (i := 27) (v := ?vz27d) rfl (by kernel_rfl) (by kernel_rfl) (by kernel_rfl) (fun _ _ _ h => h) (Or.inl ⟨by rfl, ?yz27d⟩) hHeld ?rz27d
          case yz27d => (intro w' hSw; go_simp; try with_reducible rfl)
          simp only [Act.put, List.getElem_toArray, List.getElem_cons_succ, List.getElem_cons_zero, List.setIfInBounds_toArray, List.set_cons_zero, List.set_cons_succ]
          refine wpAnyH_take (i := 28) (v := ?vz28d) rfl (by kernel_rfl) (by kernel_rfl) (by kernel_rfl) (fun _ _ _ h => h) (Or.inl ⟨by rfl, ?yz28d⟩) hHeld ?rz28d
          case yz28d => (intro w' hSw; go_simp; try with_reducible rfl)
          simp only [Act.put, List.getElem_toArray, List.getElem_cons_succ, List.getElem_cons_zero, List.setIfInBounds_toArray, List.set_cons_zero, List.set_cons_succ]
          refine wpAnyH_ready (rs := [29]) (by kernel_rfl) (by simp) ?_
          refine AllReadyH.cons rfl (fun KR hK => ?_) AllReadyH.nil
          go_simp
          refine (err_nil _).mono ?_
          rintro r wz ⟨rfl, hwz⟩
          rw [hwz]
          clear hwz wz
          dsimp only
          refine hK.out _ _ hHeld (fun hHeld => ?_)
          clear hK KR
          try simp only [Act.put, List.getElem_toArray, List.getElem_cons_succ, List.getElem_cons_zero, List.setIfInBounds_toArray, List.set_cons_zero, List.set_cons_succ]
          refine wpAnyH_take (i := 30) (v := ?vz30d) rfl (by kernel_rfl) (by kernel_rfl) (by kernel_rfl) (fun _ _ _ h => h) (Or.inl ⟨by rfl, ?yz30d⟩) hHeld ?rz30d
          case yz30d => (intro w' hSw; go_simp; try with_reducible rfl)
          simp only [Act.put, List.getElem_toArray, List.getElem_cons_succ, List.getElem_cons_zero, List.setIfInBounds_toArray, List.set_cons_zero, List.set_cons_succ]
          refine wpAnyH_take (i := 31) (v := ?vz31d) rfl (by kernel_rfl) (by kernel_rfl) (by kernel_rfl) (fun _ _ _ h => h) (Or.inl ⟨by rfl, ?yz31d⟩) hHeld ?rz31d
          case yz31d => (intro w' hSw; go_simp; try with_reducible rfl)
          simp only [Act.put, List.getElem_toArray, List.getElem_cons_succ, List.getElem_cons_zero, List.setIfInBounds_toArray, List.set_cons_zero, List.set_cons_succ]
          refine wpAnyH_take (i := 32) (v := ?vz32d) rfl (by kernel_rfl) (by kernel_rfl) (by kernel_rfl) (fun _ _ _ h => h) (Or.inl ⟨by rfl, ?yz32d⟩) hHeld ?rz32d
          case yz32d => (intro w' hSw; go_simp; try with_reducible rfl)
          simp only [Act.put, List.getElem_toArray, List.getElem_cons_succ, List.getElem_cons_zero, List.setIfInBounds_toArray, List.set_cons_zero, List.set_cons_succ]
          refine wpAnyH_take (i := 33) (v := ?vz33d) rfl (by kernel_rfl) (by kernel_rfl) (by kernel_rfl) (fun _ _ _ h => h) (Or.inl ⟨by rfl, ?yz33d⟩) hHeld ?rz33d
          case yz33d => (intro w' hSw; go_simp; try with_reducible rfl)
          simp only [Act.put, List.getElem_toArray, List.getElem_cons_succ, List.getElem_cons_zero, List.setIfInBounds_toArray, List.set_cons_zero, List.set_cons_succ]
          refine wpAnyH_ready (rs := [34]) (by kernel_rfl) (by simp) ?_
          refine AllReadyH.cons rfl (fun KR hK => ?_) AllReadyH.nil
          go_simp
          refine (end_nil _).mono ?_
          rintro r wz ⟨rfl, hwz⟩
          rw [hwz]
          clear hwz wz
          dsimp only
          refine hK.out _ _ hHeld (fun hHeld => ?_)
          clear hK KR
          try simp only [Act.put, List.getElem_toArray, List.getElem_cons_succ, List.getElem_cons_zero, List.setIfInBounds_toArray, List.set_cons_zero, List.set_cons_succ]
          refine wpAnyH_take (i := 35) (v := ?vz35d) rfl (by kernel_rfl) (by kernel_rfl) (by kernel_rfl) (fun _ _ _ h => h) (Or.inl ⟨by rfl, ?yz35d⟩) hHeld ?rz35d
          case yz35d => (intro w' hSw; go_simp; try with_reducible rfl)
          simp only [Act.put, List.getElem_toArray, List.getElem_cons_succ, List.getElem_cons_zero, List.setIfInBounds_toArray, List.set_cons_zero, List.set_cons_succ]
          refine wpAnyH_take (i := 36) (v := ?vz36d) rfl (by kernel_rfl) (by kernel_rfl) (by kernel_rfl) (fun _ _ _ h => h) (Or.inl ⟨by rfl, ?yz36d⟩) hHeld ?rz36d
          case yz36d => (intro w' hSw; go_simp; try with_reducible rfl)
          simp only [Act.put, List.getElem_toArray, List.getElem_cons_succ, List.getElem_cons_zero, List.setIfInBounds_toArray, List.set_cons_zero, List.set_cons_succ]
          refine wpAnyH_take (i := 37) (v := ?vz37d) rfl (by kernel_rfl) (by kernel_rfl) (by kernel_rfl) (fun _ _ _ h => h) (Or.inl ⟨by rfl, ?yz37d⟩) hHeld ?rz37d
          case yz37d => (intro w' hSw; go_simp; try with_reducible rfl)
          simp only [Act.put, List.getElem_toArray, List.getElem_cons_succ, List.getElem_cons_zero, List.setIfInBounds_toArray, List.set_cons_zero, List.set_cons_succ]
          refine wpAnyH_take (i := 38) (v := ?vz38d) rfl (by kernel_rfl) (by kernel_rfl) (by kernel_rfl) (fun _ _ _ h => h) (Or.inl ⟨by rfl, ?yz38d⟩) hHeld ?rz38d
          case yz38d => (intro w' hSw; go_simp; try with_reducible rfl)
          simp only [Act.put, List.getElem_toArray, List.getElem_cons_succ, List.getElem_cons_zero, List.setIfInBounds_toArray, List.set_cons_zero, List.set_cons_succ]
          refine wpAnyH_take (i := 39) (v := ?vz39d) rfl (by kernel_rfl) (by kernel_rfl) (by kernel_rfl) (fun _ _ _ h => h) (Or.inl ⟨by rfl, ?yz39d⟩) hHeld ?rz39d
          case yz39d => (intro w' hSw; obtain ⟨c0, c1, c2, c3, c4, d0, d1, d2, d3, d4, d5, d6, d7⟩ := HG.out w' (HK11.out.trans hSw); go_simp; try with_reducible rfl)
          simp only [Act.put, List.getElem_toArray, List.getElem_cons_succ, List.getElem_cons_zero, List.setIfInBounds_toArray, List.set_cons_zero, List.set_cons_succ]
          refine wpAnyH_ready (rs := [40]) (by kernel_rfl) (by simp) ?_
          refine AllReadyH.cons rfl (fun KR hK => ?_) AllReadyH.nil
          go_simp
          refine (int_nil K Bl le bi A n c _).mono ?_
          rintro r x3 ⟨rfl, hk⟩
          dsimp only
          refine hK.out _ _ (hHeld.trans hk) (fun hHeld => ?_)
          clear hK KR hk
          try simp only [Act.put, List.getElem_toArray, List.getElem_cons_succ, List.getElem_cons_zero, List.setIfInBounds_toArray, List.set_cons_zero, List.set_cons_succ]
          refine wpAnyH_take (i := 41) (v := ?vz41d) rfl (by kernel_rfl) (by kernel_rfl) (by kernel_rfl) (fun _ _ _ h => h) (Or.inl ⟨by rfl, ?yz41d⟩) hHeld ?rz41d
          case yz41d => (intro w' hSw; go_simp; try with_reducible rfl)
          simp only [Act.put, List.getElem_toArray, List.getElem_cons_succ, List.getElem_cons_zero, List.setIfInBounds_toArray, List.set_cons_zero, List.set_cons_succ]
          refine wpAnyH_take (i := 42) (v := ?vz42d) rfl (by kernel_rfl) (by kernel_rfl) (by kernel_rfl) (fun _ _ _ h => h) (Or.inl ⟨by rfl, ?yz42d⟩) hHeld ?rz42d
          case yz42d => (intro w' hSw; go_simp; try with_reducible rfl)
          simp only [Act.put, List.getElem_toArray, List.getElem_cons_succ, List.getElem_cons_zero, List.setIfInBounds_toArray, List.set_cons_zero, List.set_cons_succ]
          refine wpAnyH_take (i := 43) (v := ?vz43d) rfl (by kernel_rfl) (by kernel_rfl) (by kernel_rfl) (fun _ _ _ h => h) (Or.inl ⟨by rfl, ?yz43d⟩) hHeld ?rz43d
          case yz43d => (intro w' hSw; go_simp; try with_reducible rfl)
          simp only [Act.put, List.getElem_toArray, List.getElem_cons_succ, List.getElem_cons_zero, List.setIfInBounds_toArray, List.set_cons_zero, List.set_cons_succ]
          refine wpAnyH_take (i := 44) (v := ?vz44d) rfl (by kernel_rfl) (by kernel_rfl) (by kernel_rfl) (fun _ _ _ h => h) (Or.inl ⟨by rfl, ?yz44d⟩) hHeld ?rz44d
          case yz44d => (intro w' hSw; go_simp; try with_reducible rfl)
          simp only [Act.put, List.getElem_toArray, List.getElem_cons_succ, List.getElem_cons_zero, List.setIfInBounds_toArray, List.set_cons_zero, List.set_cons_succ]
          refine wpAnyH_take (i := 45) (v := ?vz45d) rfl (by kernel_rfl) (by kernel_rfl) (by kernel_rfl) (fun _ _ _ h => h) (Or.inl ⟨by rfl, ?yz45d⟩) hHeld ?rz45d
          case yz45d => (intro w' hSw; obtain ⟨c0, c1, c2, c3, c4, d0, d1, d2, d3, d4, d5, d6, d7⟩ := HG.out w' (HK11.out.trans hSw); go_simp; try with_reducible rfl)
          simp only [Act.put, List.getElem_toArray, List.getElem_cons_succ, List.getElem_cons_zero, List.setIfInBounds_toArray, List.set_cons_zero, List.set_cons_succ]
          refine wpAnyH_ready (rs := [46]) (by kernel_rfl) (by simp) ?_
          refine AllReadyH.cons rfl (fun KR hK => ?_) AllReadyH.nil
          go_simp
          refine (array_nil _ _).mono ?_
          rintro r x4 ⟨rfl, hk⟩
          dsimp only
          refine hK.out _ _ (hHeld.trans hk) (fun hHeld => ?_)
          clear hK KR hk
          try simp only [Act.put, List.getElem_toArray, List.getElem_cons_succ, List.getElem_cons_zero, List.setIfInBounds_toArray, List.set_cons_zero, List.set_cons_succ]
          refine wpAnyH_take (i := 47) (v := ?vz47d) rfl (by kernel_rfl) (by kernel_rfl) (by kernel_rfl) (fun _ _ _ h => h) (Or.inl ⟨by rfl, ?yz47d⟩) hHeld ?rz47d
          case yz47d => (intro w' hSw; go_simp; try with_reducible rfl)
          simp only [Act.put, List.getElem_toArray, List.getElem_cons_succ, List.getElem_cons_zero, List.setIfInBounds_toArray, List.set_cons_zero, List.set_cons_succ]
          refine wpAnyH_take (i := 48) (v := ?vz48d) rfl (by kernel_rfl) (by kernel_rfl) (by kernel_rfl) (fun _ _ _ h => h) (Or.inl ⟨by rfl, ?yz48d⟩) hHeld ?rz48d
          case yz48d => (intro w' hSw; go_simp; try with_reducible rfl)
          simp only [Act.put, List.getElem_toArray, List.getElem_cons_succ, List.getElem_cons_zero, List.setIfInBounds_toArray, List.set_cons_zero, List.set_cons_succ]
          refine wpAnyH_take (i := 49) (v := ?vz49d) rfl (by kernel_rfl) (by kernel_rfl) (by kernel_rfl) (fun _ _ _ h => h) (Or.inl ⟨by rfl, ?yz49d⟩) hHeld ?rz49d
          case yz49d => (intro w' hSw; go_simp; try with_reducible rfl)
          simp only [Act.put, List.getElem_toArray, List.getElem_cons_succ, List.getElem_cons_zero, List.setIfInBounds_toArray, List.set_cons_zero, List.set_cons_succ]
          refine wpAnyH_take (i := 50) (v := ?vz50d) rfl (by kernel_rfl) (by kernel_rfl) (by kernel_rfl) (fun _ _ _ h => h) (Or.inl ⟨by rfl, ?yz50d⟩) hHeld ?rz50d
          case yz50d => (intro w' hSw; go_simp; try with_reducible rfl)
          simp only [Act.put, List.getElem_toArray, List.getElem_cons_succ, List.getElem_cons_zero, List.setIfInBounds_toArray, List.set_cons_zero, List.set_cons_succ]
          refine wpAnyH_take (i := 51) (v := ?vz51d) rfl (by kernel_rfl) (by kernel_rfl) (by kernel_rfl) (fun _ _ _ h => h) (Or.inl ⟨by rfl, ?yz51d⟩) hHeld ?rz51d
          case yz51d => (intro w' hSw; go_simp; try with_reducible rfl)
          simp only [Act.put, List.getElem_toArray, List.getElem_cons_succ, List.getElem_cons_zero, List.setIfInBounds_toArray, List.set_cons_zero, List.set_cons_succ]
          refine wpAnyH_take (i := 52) (v := ?vz52d) rfl (by kernel_rfl) (by kernel_rfl) (by kernel_rfl) (fun _ _ _ h => h) (Or.inl ⟨by rfl, ?yz52d⟩) hHeld ?rz52d
          case yz52d => (intro w' hSw; obtain ⟨c0, c1, c2, c3, c4, d0, d1, d2, d3, d4, d5, d6, d7⟩ := HG.out w' (HK11.out.trans hSw); go_simp; try with_reducible rfl)
          simp only [Act.put, List.getElem_toArray, List.getElem_cons_succ, List.getElem_cons_zero, List.setIfInBounds_toArray, List.set_cons_zero, List.set_cons_succ]
          refine wpAnyH_ready (rs := [53]) (by kernel_rfl) (by simp) ?_
          refine AllReadyH.cons rfl (fun KR hK => ?_) AllReadyH.nil
          go_simp
          refine (within_nil _ 1 2 _).mono ?_
          rintro r x5 ⟨rfl, hk⟩
          dsimp only
          refine hK.out _ _ (hHeld.trans hk) (fun hHeld => ?_)
          clear hK KR hk
          try simp only [Act.put, List.getElem_toArray, List.getElem_cons_succ, List.getElem_cons_zero, List.setIfInBounds_toArray, List.set_cons_zero, List.set_cons_succ]
          refine wpAnyH_take (i := 54) (v := ?vz54d) rfl (by kernel_rfl) (by kernel_rfl) (by kernel_rfl) (fun _ _ _ h => h) (Or.inl ⟨by rfl, ?yz54d⟩) hHeld ?rz54d
          case yz54d => (intro w' hSw; go_simp; try with_reducible rfl)
          simp only [Act.put, List.getElem_toArray, List.getElem_cons_succ, List.getElem_cons_zero, List.setIfInBounds_toArray, List.set_cons_zero, List.set_cons_succ]
          refine wpAnyH_take (i := 55) (v := ?vz55d) rfl (by kernel_rfl) (by kernel_rfl) (by kernel_rfl) (fun _ _ _ h => h) (Or.inl ⟨by rfl, ?yz55d⟩) hHeld ?rz55d
          case yz55d => (intro w' hSw; go_simp; try with_reducible rfl)
          simp only [Act.put, List.getElem_toArray, List.getElem_cons_succ, List.getElem_cons_zero, List.setIfInBounds_toArray, List.set_cons_zero, List.set_cons_succ]
          refine wpAnyH_take (i := 56) (v := ?vz56d) rfl (by kernel_rfl) (by kernel_rfl) (by kernel_rfl) (fun _ _ _ h => h) (Or.inl ⟨by rfl, ?yz56d⟩) hHeld ?rz56d
          case yz56d => (intro w' hSw; go_simp; try with_reducible rfl)
          simp only [Act.put, List.getElem_toArray, List.getElem_cons_succ, List.getElem_cons_zero, List.setIfInBounds_toArray, List.set_cons_zero, List.set_cons_succ]
          have HKF := Lib.hid hHeld
          refine wpAnyH_done (by kernel_rfl) ?_ _
          clear hHeld
          refine NoPanic.normal ?_
          go_wp2
          go_ret
          exact ⟨by simp, HKW.out.trans (HK11.out.trans HKF.out)⟩
      · as_aux_lemma =>
          subst he0
          have hf1 : (f == 0) = false := by simpa using hf0
          obtain rfl := HVE.out hf0
          clear HUE HVE
          go_upto_region 21 with fail
          refine wp_region_noPanic ?_
          refine wp_region_held_drew (S := fun w' => Keeps (fun _ => False) w11 w') (by kernel_rfl) KC.out (fun hHeld => ?_)
          refine wpAnyH_take (i := 0) (v := ?vz0c) rfl (by kernel_rfl) (by kernel_rfl) (by kernel_rfl) (fun _ _ _ h => h) (Or.inl ⟨by rfl, ?yz0c⟩) hHeld ?rz0c
          case yz0c => (intro w' hSw; go_simp; try with_reducible rfl)
          simp only [Act.put, List.getElem_toArray, List.getElem_cons_succ, List.getElem_cons_zero, List.setIfInBounds_toArray, List.set_cons_zero, List.set_cons_succ]
          refine wpAnyH_ready (rs := [1]) (by kernel_rfl) (by simp) ?_
          refine AllReadyH.cons rfl (fun KR hK => ?_) AllReadyH.nil
          go_simp
          refine (HEZ.out _ hHeld).mono ?_
          rintro r wz ⟨rfl, hwz⟩
          rw [hwz]
          clear hwz wz
          dsimp only
          refine hK.out _ _ hHeld (fun hHeld => ?_)
          clear hK KR
          try simp only [Act.put, List.getElem_toArray, List.getElem_cons_succ, List.getElem_cons_zero, List.setIfInBounds_toArray, List.set_cons_zero, List.set_cons_succ]
          refine wpAnyH_take (i := 2) (v := ?vz2c) rfl (by kernel_rfl) (by kernel_rfl) (by kernel_rfl) (fun _ _ _ h => h) (Or.inl ⟨by rfl, ?yz2c⟩) hHeld ?rz2c
          case yz2c => (intro w' hSw; go_simp; try with_reducible rfl)
          simp only [Act.put, List.getElem_toArray, List.getElem_cons_succ, List.getElem_cons_zero, List.setIfInBounds_toArray, List.set_cons_zero, List.set_cons_succ]
          refine wpAnyH_take (i := 3) (v := ?vz3c) rfl (by kernel_rfl) (by kernel_rfl) (by kernel_rfl) (fun _ _ _ h => h) (Or.inl ⟨by rfl, ?yz3c⟩) hHeld ?rz3c
          case yz3c => (intro w' hSw; go_simp; try with_reducible rfl)
          simp only [Act.put, List.getElem_toArray, List.getElem_cons_succ, List.getElem_cons_zero, List.setIfInBounds_toArray, List.set_cons_zero, List.set_cons_succ]
          refine wpAnyH_take (i := 4) (v := ?vz4c) rfl (by kernel_rfl) (by kernel_rfl) (by kernel_rfl) (fun _ _ _ h => h) (Or.inl ⟨by rfl, ?yz4c⟩) hHeld ?rz4c
          case yz4c => (intro w' hSw; obtain ⟨c0, c1, c2, c3, c4, d0, d1, d2, d3, d4, d5, d6, d7⟩ := HG.out w' (HK11.out.trans hSw); go_simp; try with_reducible rfl)
          simp only [Act.put, List.getElem_toArray, List.getElem_cons_succ, List.getElem_cons_zero, List.setIfInBounds_toArray, List.set_cons_zero, List.set_cons_succ]
          refine wpAnyH_ready (rs := [5]) (by kernel_rfl) (by simp) ?_
          refine AllReadyH.cons rfl (fun KR hK => ?_) AllReadyH.nil
          go_simp
          refine (HC0.out _ (HEN.out.more (HKW.out.trans (HK11.out.trans hHeld)))).mono ?_
          rintro r x6 ⟨rfl, hk⟩
          dsimp only
          refine hK.out _ _ (hHeld.trans hk) (fun hHeld => ?_)
          clear hK KR hk
          try simp only [Act.put, List.getElem_toArray, List.getElem_cons_succ, List.getElem_cons_zero, List.setIfInBounds_toArray, List.set_cons_zero, List.set_cons_succ]
          refine wpAnyH_take (i := 6) (v := ?vz6c) rfl (by kernel_rfl) (by kernel_rfl) (by kernel_rfl) (fun _ _ _ h => h) (Or.inl ⟨by rfl, ?yz6c⟩) hHeld ?rz6c
          case yz6c => (intro w' hSw; go_simp; try with_reducible rfl)
          simp only [Act.put, List.getElem_toArray, List.getElem_cons_succ, List.getElem_cons_zero, List.setIfInBounds_toArray, List.set_cons_zero, List.set_cons_succ]
          refine wpAnyH_take (i := 7) (v := ?vz7c) rfl (by kernel_rfl) (by kernel_rfl) (by kernel_rfl) (fun _ _ _ h => h) (Or.inl ⟨by rfl, ?yz7c⟩) hHeld ?rz7c
          case yz7c => (intro w' hSw; go_simp; try with_reducible rfl)
          simp only [Act.put, List.getElem_toArray, List.getElem_cons_succ, List.getElem_cons_zero, List.setIfInBounds_toArray, List.set_cons_zero, List.set_cons_succ]
          refine wpAnyH_take (i := 8) (v := undef) rfl (by kernel_rfl) (by kernel_rfl) (by kernel_rfl) (fun _ _ _ h => h) (Or.inr ⟨by rfl, rfl⟩) hHeld ?_
          simp only [Act.put, List.getElem_toArray, List.getElem_cons_succ, List.getElem_cons_zero, List.setIfInBounds_toArray, List.set_cons_zero, List.set_cons_succ]
          refine wpAnyH_take (i := 9) (v := undef) rfl (by kernel_rfl) (by kernel_rfl) (by kernel_rfl) (fun _ _ _ h => h) (Or.inr ⟨by rfl, rfl⟩) hHeld ?_
          simp only [Act.put, List.getElem_toArray, List.getElem_cons_succ, List.getElem_cons_zero, List.setIfInBounds_toArray, List.set_cons_zero, List.set_cons_succ]
          refine wpAnyH_take (i := 10) (v := undef) rfl (by kernel_rfl) (by kernel_rfl) (by kernel_rfl) (fun _ _ _ h => h) (Or.inr ⟨by rfl, rfl⟩) hHeld ?_
          simp only [Act.put, List.getElem_toArray, List.getElem_cons_succ, List.getElem_cons_zero, List.setIfInBounds_toArray, List.set_cons_zero, List.set_cons_succ]
          refine wpAnyH_take (i := 11) (v := undef) rfl (by kernel_rfl) (by kernel_rfl) (by kernel_rfl) (fun _ _ _ h => h) (Or.inr ⟨by rfl, rfl⟩) hHeld ?_
          simp only [Act.put, List.getElem_toArray, List.getElem_cons_succ, List.getElem_cons_zero, List.setIfInBounds_toArray, List.set_cons_zero, List.set_cons_succ]
          refine wpAnyH_take (i := 12) (v := undef) rfl (by kernel_rfl) (by kernel_rfl) (by kernel_rfl) (fun _ _ _ h => h) (Or.inr ⟨by rfl, rfl⟩) hHeld ?_
          simp only [Act.put, List.getElem_toArray, List.getElem_cons_succ, List.getElem_cons_zero, List.setIfInBounds_toArray, List.set_cons_zero, List.set_cons_succ]
          refine wpAnyH_take (i := 13) (v := ?vz13c) rfl (by kernel_rfl) (by kernel_rfl) (by kernel_rfl) (fun _ _ _ h => h) (Or.inl ⟨by rfl, ?yz13c⟩) hHeld ?rz13c
          case yz13c => (intro w' hSw; go_simp; try with_reducible rfl)
          simp only [Act.put, List.getElem_toArray, List.getElem_cons_succ, List.getElem_cons_zero, List.setIfInBounds_toArray, List.set_cons_zero, List.set_cons_succ]
          refine wpAnyH_take (i := 14) (v := ?vz14c) rfl (by kernel_rfl) (by kernel_rfl) (by kernel_rfl) (fun _ _ _ h => h) (Or.inl ⟨by rfl, ?yz14c⟩) hHeld ?rz14c
          case yz14c => (intro w' hSw; go_simp; try with_reducible rfl)
          simp only [Act.put, List.getElem_toArray, List.getElem_cons_succ, List.getElem_cons_zero, List.setIfInBounds_toArray, List.set_cons_zero, List.set_cons_succ]
          refine wpAnyH_take (i := 15) (v := ?vz15c) rfl (by kernel_rfl) (by kernel_rfl) (by kernel_rfl) (fun _ _ _ h => h) (Or.inl ⟨by rfl, ?yz15c⟩) hHeld ?rz15c
          case yz15c => (intro w' hSw; go_simp; try with_reducible rfl)
          simp only [Act.put, List.getElem_toArray, List.getElem_cons_succ, List.getElem_cons_zero, List.setIfInBounds_toArray, List.set_cons_zero, List.set_cons_succ]
          refine wpAnyH_take (i := 16) (v := ?vz16c) rfl (by kernel_rfl) (by kernel_rfl) (by kernel_rfl) (fun _ _ _ h => h) (Or.inl ⟨by rfl, ?yz16c⟩) hHeld ?rz16c
          case yz16c => (intro w' hSw; obtain ⟨c0, c1, c2, c3, c4, d0, d1, d2, d3, d4, d5, d6, d7⟩ := HG.out w' (HK11.out.trans hSw); go_simp; try with_reducible rfl)
          simp only [Act.put, List.getElem_toArray, List.getElem_cons_succ, List.getElem_cons_zero, List.setIfInBounds_toArray, List.set_cons_zero, List.set_cons_succ]
          refine wpAnyH_ready (rs := [17]) (by kernel_rfl) (by simp) ?_
          refine AllReadyH.cons rfl (fun KR hK => ?_) AllReadyH.nil
          go_simp
          refine (HC1.out _ (HEN'.out.more (HKW.out.trans (HK11.out.trans hHeld)))).mono ?_
          rintro r x7 ⟨rfl, hk⟩
          dsimp only
          refine hK.out _ _ (hHeld.trans hk) (fun hHeld => ?_)
          clear hK KR hk
          try simp only [Act.put, List.getElem_toArray, List.getElem_cons_succ, List.getElem_cons_zero, List.setIfInBounds_toArray, List.set_cons_zero, List.set_cons_succ]
          refine wpAnyH_take (i := 18) (v := ?vz18c) rfl (by kernel_rfl) (by kernel_rfl) (by kernel_rfl) (fun _ _ _ h => h) (Or.inl ⟨by rfl, ?yz18c⟩) hHeld ?rz18c
          case yz18c => (intro w' hSw; go_simp; try with_reducible rfl)
          simp only [Act.put, List.getElem_toArray, List.getElem_cons_succ, List.getElem_cons_zero, List.setIfInBounds_toArray, List.set_cons_zero, List.set_cons_succ]
          refine wpAnyH_take (i := 19) (v := ?vz19c) rfl (by kernel_rfl) (by kernel_rfl) (by kernel_rfl) (fun _ _ _ h => h) (Or.inl ⟨by rfl, ?yz19c⟩) hHeld ?rz19c
          case yz19c => (intro w' hSw; go_simp; try with_reducible rfl)
          simp only [Act.put, List.getElem_toArray, List.getElem_cons_succ, List.getElem_cons_zero, List.setIfInBounds_toArray, List.set_cons_zero, List.set_cons_succ]
          refine wpAnyH_take (i := 20) (v := ?vz20c) rfl (by kernel_rfl) (by kernel_rfl) (by kernel_rfl) (fun _ _ _ h => h) (Or.inl ⟨by rfl, ?yz20c⟩) hHeld ?rz20c
          case yz20c => (intro w' hSw; go_simp; try with_reducible rfl)
          simp only [Act.put, List.getElem_toArray, List.getElem_cons_succ, List.getElem_cons_zero, List.setIfInBounds_toArray, List.set_cons_zero, List.set_cons_succ]
          refine wpAnyH_take (i := 22) (v := ?vz22c) rfl (by kernel_rfl) (by kernel_rfl) (by kernel_rfl) (fun _ _ _ h => h) (Or.inl ⟨by rfl, ?yz22c⟩) hHeld ?rz22c
          case yz22c => (intro w' hSw; obtain ⟨c0, c1, c2, c3, c4, d0, d1, d2, d3, d4, d5, d6, d7⟩ := HG.out w' (HK11.out.trans hSw); go_simp; try with_reducible rfl)
          simp only [Act.put, List.getElem_toArray, List.getElem_cons_succ, List.getElem_cons_zero, List.setIfInBounds_toArray, List.set_cons_zero, List.set_cons_succ]
          refine wpAnyH_ready (rs := [21]) (by kernel_rfl) (by simp) ?_
          refine AllReadyH.cons rfl (fun KR hK => ?_) AllReadyH.nil
          go_simp
          refine (HEV.out _ hHeld).mono ?_
          rintro r wz ⟨rfl, hwz⟩
          rw [hwz]
          clear hwz wz
          dsimp only
          refine hK.out _ _ hHeld (fun hHeld => ?_)
          clear hK KR
          try simp only [Act.put, List.getElem_toArray, List.getElem_cons_succ, List.getElem_cons_zero, List.setIfInBounds_toArray, List.set_cons_zero, List.set_cons_succ]
          refine wpAnyH_ready (rs := [23]) (by kernel_rfl) (by simp) ?_
          refine AllReadyH.cons rfl (fun KR hK => ?_) AllReadyH.nil
          go_simp
          refine (HC1.out _ (HEN'.out.more (HKW.out.trans (HK11.out.trans hHeld)))).mono ?_
          rintro r x8 ⟨rfl, hk⟩
          dsimp only
          refine hK.out _ _ (hHeld.trans hk) (fun hHeld => ?_)
          clear hK KR hk
          try simp only [Act.put, List.getElem_toArray, List.getElem_cons_succ, List.getElem_cons_zero, List.setIfInBounds_toArray, List.set_cons_zero, List.set_cons_succ]
          refine wpAnyH_take (i := 24) (v := ?vz24c) rfl (by kernel_rfl) (by kernel_rfl) (by kernel_rfl) (fun _ _ _ h => h) (Or.inl ⟨by rfl, ?yz24c⟩) hHeld ?rz24c
          case yz24c => (intro w' hSw; go_simp; try with_reducible rfl)
          simp only [Act.put, List.getElem_toArray, List.getElem_cons_succ, List.getElem_cons_zero, List.setIfInBounds_toArray, List.set_cons_zero, List.set_cons_succ]
          refine wpAnyH_take (i := 25) (v := ?vz25c) rfl (by kernel_rfl) (by kernel_rfl) (by kernel_rfl) (fun _ _ _ h => h) (Or.inl ⟨by rfl, ?yz25c⟩) hHeld ?rz25c
          case yz25c => (intro w' hSw; go_simp; try with_reducible rfl)
          simp only [Act.put, List.getElem_toArray, List.getElem_cons_succ, List.getElem_cons_zero, List.setIfInBounds_toArray, List.set_cons_zero, List.set_cons_succ]
          refine wpAnyH_take (i := 26) (v := ?vz26c) rfl (by kernel_rfl) (by kernel_rfl) (by kernel_rfl) (fun _ _ _ h => h) (Or.inl ⟨by rfl, ?yz26c⟩) hHeld ?rz26c
          case yz26c => (intro w' hSw; go_simp; try with_reducible rfl)
          simp only [Act.put, List.getElem_toArray, List.getElem_cons_succ, List.getElem_cons_zero, List.setIfInBounds_toArray, List.set_cons_zero, List.set_cons_succ]
          refine wpAnyH_take (i := 27) (v := ?vz27c) rfl (by kernel_rfl) (by kernel_rfl) (by kernel_rfl) (fun _ _ _ h => h) (Or.inl ⟨by rfl, ?yz27c⟩) hHeld ?rz27c
          case yz27c => (intro w' hSw; go_simp; try with_reducible rfl)
          simp only [Act.put, List.getElem_toArray, List.getElem_cons_succ, List.getElem_cons_zero, List.setIfInBounds_toArray, List.set_cons_zero, List.set_cons_succ]
          refine wpAnyH_take (i := 28) (v := ?vz28c) rfl (by kernel_rfl) (by kernel_rfl) (by kernel_rfl) (fun _ _ _ h => h) (Or.inl ⟨by rfl, ?yz28c⟩) hHeld ?rz28c
          case yz28c => (intro w' hSw; go_simp; try with_reducible rfl)
          simp only [Act.put, List.getElem_toArray, List.getElem_cons_succ, List.getElem_cons_zero, List.setIfInBounds_toArray, List.set_cons_zero, List.set_cons_succ]
          refine wpAnyH_ready (rs := [29]) (by kernel_rfl) (by simp) ?_
          refine AllReadyH.cons rfl (fun KR hK => ?_) AllReadyH.nil
          go_simp
          refine (err_nil _).mono ?_
          rintro r wz ⟨rfl, hwz⟩
          rw [hwz]
          clear hwz wz
          dsimp only
          refine hK.out _ _ hHeld (fun hHeld => ?_)
          clear hK KR
          try simp only [Act.put, List.getElem_toArray, List.getElem_cons_succ, List.getElem_cons_zero, List.setIfInBounds_toArray, List.set_cons_zero, List.set_cons_succ]
          refine wpAnyH_take (i := 30) (v := ?vz30c) rfl (by kernel_rfl) (by kernel_rfl) (by kernel_rfl) (fun _ _ _ h => h) (Or.inl ⟨by rfl, ?yz30c⟩) hHeld ?rz30c
          case yz30c => (intro w' hSw; go_simp; try with_reducible rfl)
          simp only [Act.put, List.getElem_toArray, List.getElem_cons_succ, List.getElem_cons_zero, List.setIfInBounds_toArray, List.set_cons_zero, List.set_cons_succ]
          refine wpAnyH_take (i := 31) (v := ?vz31c) rfl (by kernel_rfl) (by kernel_rfl) (by kernel_rfl) (fun _ _ _ h => h) (Or.inl ⟨by rfl, ?yz31c⟩) hHeld ?rz31c
          case yz31c => (intro w' hSw; go_simp; try with_reducible rfl)
          simp only [Act.put, List.getElem_toArray, List.getElem_cons_succ, List.getElem_cons_zero, List.setIfInBounds_toArray, List.set_cons_zero, List.set_cons_succ]
          refine wpAnyH_take (i := 32) (v := ?vz32c) rfl (by kernel_rfl) (by kernel_rfl) (by kernel_rfl) (fun _ _ _ h => h) (Or.inl ⟨by rfl, ?yz32c⟩) hHeld ?rz32c
          case yz32c => (intro w' hSw; go_simp; try with_reducible rfl)
          simp only [Act.put, List.getElem_toArray, List.getElem_cons_succ, List.getElem_cons_zero, List.setIfInBounds_toArray, List.set_cons_zero, List.set_cons_succ]
          refine wpAnyH_take (i := 33) (v := ?vz33c) rfl (by kernel_rfl) (by kernel_rfl) (by kernel_rfl) (fun _ _ _ h => h) (Or.inl ⟨by rfl, ?yz33c⟩) hHeld ?rz33c
          case yz33c => (intro w' hSw; go_simp; try with_reducible rfl)
          simp only [Act.put, List.getElem_toArray, List.getElem_cons_succ, List.getElem_cons_zero, List.setIfInBounds_toArray, List.set_cons_zero, List.set_cons_succ]
          refine wpAnyH_ready (rs := [34]) (by kernel_rfl) (by simp) ?_
          refine AllReadyH.cons rfl (fun KR hK => ?_) AllReadyH.nil
          go_simp
          refine (end_nil _).mono ?_
          rintro r wz ⟨rfl, hwz⟩
          rw [hwz]
          clear hwz wz
          dsimp only
          refine hK.out _ _ hHeld (fun hHeld => ?_)
          clear hK KR
          try simp only [Act.put, List.getElem_toArray, List.getElem_cons_succ, List.getElem_cons_zero, List.setIfInBounds_toArray, List.set_cons_zero, List.set_cons_succ]
          refine wpAnyH_take (i := 35) (v := ?vz35c) rfl (by kernel_rfl) (by kernel_rfl) (by kernel_rfl) (fun _ _ _ h => h) (Or.inl ⟨by rfl, ?yz35c⟩) hHeld ?rz35c
          case yz35c => (intro w' hSw; go_simp; try with_reducible rfl)
          simp only [Act.put, List.getElem_toArray, List.getElem_cons_succ, List.getElem_cons_zero, List.setIfInBounds_toArray, List.set_cons_zero, List.set_cons_succ]
          refine wpAnyH_take (i := 36) (v := ?vz36c) rfl (by kernel_rfl) (by kernel_rfl) (by kernel_rfl) (fun _ _ _ h => h) (Or.inl ⟨by rfl, ?yz36c⟩) hHeld ?rz36c
          case yz36c => (intro w' hSw; go_simp; try with_reducible rfl)
          simp only [Act.put, List.getElem_toArray, List.getElem_cons_succ, List.getElem_cons_zero, List.setIfInBounds_toArray, List.set_cons_zero, List.set_cons_succ]
          refine wpAnyH_take (i := 37) (v := ?vz37c) rfl (by kernel_rfl) (by kernel_rfl) (by kernel_rfl) (fun _ _ _ h => h) (Or.inl ⟨by rfl, ?yz37c⟩) hHeld ?rz37c
          case yz37c => (intro w' hSw; go_simp; try with_reducible rfl)
          simp only [Act.put, List.getElem_toArray, List.getElem_cons_succ, List.getElem_cons_zero, List.setIfInBounds_toArray, List.set_cons_zero, List.set_cons_succ]
          refine wpAnyH_take (i := 38) (v := ?vz38c) rfl (by kernel_rfl) (by kernel_rfl) (by kernel_rfl) (fun _ _ _ h => h) (Or.inl ⟨by rfl, ?yz38c⟩) hHeld ?rz38c
          case yz38c => (intro w' hSw; go_simp; try with_reducible rfl)
          simp only [Act.put, List.getElem_toArray, List.getElem_cons_succ, List.getElem_cons_zero, List.setIfInBounds_toArray, List.set_cons_zero, List.set_cons_succ]
          refine wpAnyH_take (i := 39) (v := ?vz39c) rfl (by kernel_rfl) (by kernel_rfl) (by kernel_rfl) (fun _ _ _ h => h) (Or.inl ⟨by rfl, ?yz39c⟩) hHeld ?rz39c
          case yz39c => (intro w' hSw; obtain ⟨c0, c1, c2, c3, c4, d0, d1, d2, d3, d4, d5, d6, d7⟩ := HG.out w' (HK11.out.trans hSw); go_simp; try with_reducible rfl)
          simp only [Act.put, List.getElem_toArray, List.getElem_cons_succ, List.getElem_cons_zero, List.setIfInBounds_toArray, List.set_cons_zero, List.set_cons_succ]
          refine wpAnyH_ready (rs := [40]) (by kernel_rfl) (by simp) ?_
          refine AllReadyH.cons rfl (fun KR hK => ?_) AllReadyH.nil
          go_simp
          refine (int_nil K Bl le bi A n c _).mono ?_
          rintro r x9 ⟨rfl, hk⟩
          dsimp only
          refine hK.out _ _ (hHeld.trans hk) (fun hHeld => ?_)
          clear hK KR hk
          try simp only [Act.put, List.getElem_toArray, List.getElem_cons_succ, List.getElem_cons_zero, List.setIfInBounds_toArray, List.set_cons_zero, List.set_cons_succ]
          refine wpAnyH_take (i := 41) (v := ?vz41c) rfl (by kernel_rfl) (by kernel_rfl) (by kernel_rfl) (fun _ _ _ h => h) (Or.inl ⟨by rfl, ?yz41c⟩) hHeld ?rz41c
          case yz41c => (intro w' hSw; go_simp; try with_reducible rfl)
          simp only [Act.put, List.getElem_toArray, List.getElem_cons_succ, List.getElem_cons_zero, List.setIfInBounds_toArray, List.set_cons_zero, List.set_cons_succ]
          refine wpAnyH_take (i := 42) (v := ?vz42c) rfl (by kernel_rfl) (by kernel_rfl) (by kernel_rfl) (fun _ _ _ h => h) (Or.inl ⟨by rfl, ?yz42c⟩) hHeld ?rz42c
          case yz42c => (intro w' hSw; go_simp; try with_reducible rfl)
          simp only [Act.put, List.getElem_toArray, List.getElem_cons_succ, List.getElem_cons_zero, List.setIfInBounds_toArray, List.set_cons_zero, List.set_cons_succ]
          refine wpAnyH_take (i := 43) (v := ?vz43c) rfl (by kernel_rfl) (by kernel_rfl) (by kernel_rfl) (fun _ _ _ h => h) (Or.inl ⟨by rfl, ?yz43c⟩) hHeld ?rz43c
          case yz43c => (intro w' hSw; go_simp; try with_reducible rfl)
          simp only [Act.put, List.getElem_toArray, List.getElem_cons_succ, List.getElem_cons_zero, List.setIfInBounds_toArray, List.set_cons_zero, List.set_cons_succ]
          refine wpAnyH_take (i := 44) (v := ?vz44c) rfl (by kernel_rfl) (by kernel_rfl) (by kernel_rfl) (fun _ _ _ h => h) (Or.inl ⟨by rfl, ?yz44c⟩) hHeld ?rz44c
          case yz44c => (intro w' hSw; go_simp; try with_reducible rfl)
          simp only [Act.put, List.getElem_toArray, List.getElem_cons_succ, List.getElem_cons_zero, List.setIfInBounds_toArray, List.set_cons_zero, List.set_cons_succ]
          refine wpAnyH_take (i := 45) (v := ?vz45c) rfl (by kernel_rfl) (by kernel_rfl) (by kernel_rfl) (fun _ _ _ h => h) (Or.inl ⟨by rfl, ?yz45c⟩) hHeld ?rz45c
          case yz45c => (intro w' hSw; obtain ⟨c0, c1, c2, c3, c4, d0, d1, d2, d3, d4, d5, d6, d7⟩ := HG.out w' (HK11.out.trans hSw); go_simp; try with_reducible rfl)
          simp only [Act.put, List.getElem_toArray, List.getElem_cons_succ, List.getElem_cons_zero, List.setIfInBounds_toArray, List.set_cons_zero, List.set_cons_succ]
          refine wpAnyH_ready (rs := [46]) (by kernel_rfl) (by simp) ?_
          refine AllReadyH.cons rfl (fun KR hK => ?_) AllReadyH.nil
          go_simp
          refine (array_nil _ _).mono ?_
          rintro r x10 ⟨rfl, hk⟩
          dsimp only
          refine hK.out _ _ (hHeld.trans hk) (fun hHeld => ?_)
          clear hK KR hk
          try simp only [Act.put, List.getElem_toArray, List.getElem_cons_succ, List.getElem_cons_zero, List.setIfInBounds_toArray, List.set_cons_zero, List.set_cons_succ]
          refine wpAnyH_take (i := 47) (v := ?vz47c) rfl (by kernel_rfl) (by kernel_rfl) (by kernel_rfl) (fun _ _ _ h => h) (Or.inl ⟨by rfl, ?yz47c⟩) hHeld ?rz47c
          case yz47c => (intro w' hSw; go_simp; try with_reducible rfl)
          simp only [Act.put, List.getElem_toArray, List.getElem_cons_succ, List.getElem_cons_zero, List.setIfInBounds_toArray, List.set_cons_zero, List.set_cons_succ]
          refine wpAnyH_take (i := 48) (v := ?vz48c) rfl (by kernel_rfl) (by kernel_rfl) (by kernel_rfl) (fun _ _ _ h => h) (Or.inl ⟨by rfl, ?yz48c⟩) hHeld ?rz48c
          case yz48c => (intro w' hSw; go_simp; try with_reducible rfl)
          simp only [Act.put, List.getElem_toArray, List.getElem_cons_succ, List.getElem_cons_zero, List.setIfInBounds_toArray, List.set_cons_zero, List.set_cons_succ]
          refine wpAnyH_take (i := 49) (v := ?vz49c) rfl (by kernel_rfl) (by kernel_rfl) (by kernel_rfl) (fun _ _ _ h => h) (Or.inl ⟨by rfl, ?yz49c⟩) hHeld ?rz49c
          case yz49c => (intro w' hSw; go_simp; try with_reducible rfl)
          simp only [Act.put, List.getElem_toArray, List.getElem_cons_succ, List.getElem_cons_zero, List.setIfInBounds_toArray, List.set_cons_zero, List.set_cons_succ]
          refine wpAnyH_take (i := 50) (v := ?vz50c) rfl (by kernel_rfl) (by kernel_rfl) (by kernel_rfl) (fun _ _ _ h => h) (Or.inl ⟨by rfl, ?yz50c⟩) hHeld ?rz50c
          case yz50c => (intro w' hSw; go_simp; try with_reducible rfl)
          simp only [Act.put, List.getElem_toArray, List.getElem_cons_succ, List.getElem_cons_zero, List.setIfInBounds_toArray, List.set_cons_zero, List.set_cons_succ]
          refine wpAnyH_take (i := 51) (v := ?vz51c) rfl (by kernel_rfl) (by kernel_rfl) (by kernel_rfl) (fun _ _ _ h => h) (Or.inl ⟨by rfl, ?yz51c⟩) hHeld ?rz51c
          case yz51c => (intro w' hSw; go_simp; try with_reducible rfl)
          simp only [Act.put, List.getElem_toArray, List.getElem_cons_succ, List.getElem_cons_zero, List.setIfInBounds_toArray, List.set_cons_zero, List.set_cons_succ]
          refine wpAnyH_take (i := 52) (v := ?vz52c) rfl (by kernel_rfl) (by kernel_rfl) (by kernel_rfl) (fun _ _ _ h => h) (Or.inl ⟨by rfl, ?yz52c⟩) hHeld ?rz52c
          case yz52c => (intro w' hSw; obtain ⟨c0, c1, c2, c3, c4, d0, d1, d2, d3, d4, d5, d6, d7⟩ := HG.out w' (HK11.out.trans hSw); go_simp; try with_reducible rfl)
          simp only [Act.put, List.getElem_toArray, List.getElem_cons_succ, List.getElem_cons_zero, List.setIfInBounds_toArray, List.set_cons_zero, List.set_cons_succ]
          refine wpAnyH_ready (rs := [53]) (by kernel_rfl) (by simp) ?_
          refine AllReadyH.cons rfl (fun KR hK => ?_) AllReadyH.nil
          go_simp
          refine (within_nil _ 1 2 _).mono ?_
          rintro r x11 ⟨rfl, hk⟩
          dsimp only
          refine hK.out _ _ (hHeld.trans hk) (fun hHeld => ?_)
          clear hK KR hk
          try simp only [Act.put, List.getElem_toArray, List.getElem_cons_succ, List.getElem_cons_zero, List.setIfInBounds_toArray, List.set_cons_zero, List.set_cons_succ]
          refine wpAnyH_take (i := 54) (v := ?vz54c) rfl (by kernel_rfl) (by kernel_rfl) (by kernel_rfl) (fun _ _ _ h => h) (Or.inl ⟨by rfl, ?yz54c⟩) hHeld ?rz54c
          case yz54c => (intro w' hSw; go_simp; try with_reducible rfl)
          simp only [Act.put, List.getElem_toArray, List.getElem_cons_succ, List.getElem_cons_zero, List.setIfInBounds_toArray, List.set_cons_zero, List.set_cons_succ]
          refine wpAnyH_take (i := 55) (v := ?vz55c) rfl (by kernel_rfl) (by kernel_rfl) (by kernel_rfl) (fun _ _ _ h => h) (Or.inl ⟨by rfl, ?yz55c⟩) hHeld ?rz55c
          case yz55c => (intro w' hSw; go_simp; try with_reducible rfl)
          simp only [Act.put, List.getElem_toArray, List.getElem_cons_succ, List.getElem_cons_zero, List.setIfInBounds_toArray, List.set_cons_zero, List.set_cons_succ]
          refine wpAnyH_take (i := 56) (v := ?vz56c) rfl (by kernel_rfl) (by kernel_rfl) (by kernel_rfl) (fun _ _ _ h => h) (Or.inl ⟨by rfl, ?yz56c⟩) hHeld ?rz56c
          case yz56c => (intro w' hSw; go_simp; try with_reducible rfl)
          simp only [Act.put, List.getElem_toArray, List.getElem_cons_succ, List.getElem_cons_zero, List.setIfInBounds_toArray, List.set_cons_zero, List.set_cons_succ]
          have HKF := Lib.hid hHeld
          refine wpAnyH_done (by kernel_rfl) ?_ _
          clear hHeld
          refine NoPanic.normal ?_
          go_wp2
          go_ret
          exact ⟨by simp, HKW.out.trans (HK11.out.trans HKF.out)⟩
    · by_cases hf0 : f = 0
      · as_aux_lemma =>
          have he1 : (e == 0) = false := by simpa using he0
          obtain rfl := HUE.out he0
          subst hf0
          clear HUE HVE
          go_upto_region 21 with fail
          refine wp_region_noPanic ?_
          refine wp_region_held_drew (S := fun w' => Keeps (fun _ => False) w11 w') (by kernel_rfl) KC.out (fun hHeld => ?_)
          refine wpAnyH_take (i := 0) (v := ?vz0b) rfl (by kernel_rfl) (by kernel_rfl) (by kernel_rfl) (fun _ _ _ h => h) (Or.inl ⟨by rfl, ?yz0b⟩) hHeld ?rz0b
          case yz0b => (intro w' hSw; go_simp; try with_reducible rfl)
          simp only [Act.put, List.getElem_toArray, List.getElem_cons_succ, List.getElem_cons_zero, List.setIfInBounds_toArray, List.set_cons_zero, List.set_cons_succ]
          refine wpAnyH_ready (rs := [1]) (by kernel_rfl) (by simp) ?_
          refine AllReadyH.cons rfl (fun KR hK => ?_) AllReadyH.nil
          go_simp
          refine (HEZ.out _ hHeld).mono ?_
          rintro r wz ⟨rfl, hwz⟩
          rw [hwz]
          clear hwz wz
          dsimp only
          refine hK.out _ _ hHeld (fun hHeld => ?_)
          clear hK KR
          try simp only [Act.put, List.getElem_toArray, List.getElem_cons_succ, List.getElem_cons_zero, List.setIfInBounds_toArray, List.set_cons_zero, List.set_cons_succ]
          refine wpAnyH_take (i := 2) (v := ?vz2b) rfl (by kernel_rfl) (by kernel_rfl) (by kernel_rfl) (fun _ _ _ h => h) (Or.inl ⟨by rfl, ?yz2b⟩) hHeld ?rz2b
          case yz2b => (intro w' hSw; go_simp; try with_reducible rfl)
          simp only [Act.put, List.getElem_toArray, List.getElem_cons_succ, List.getElem_cons_zero, List.setIfInBounds_toArray, List.set_cons_zero, List.set_cons_succ]
          refine wpAnyH_take (i := 3) (v := ?vz3b) rfl (by kernel_rfl) (by kernel_rfl) (by kernel_rfl) (fun _ _ _ h => h) (Or.inl ⟨by rfl, ?yz3b⟩) hHeld ?rz3b
          case yz3b => (intro w' hSw; go_simp; try with_reducible rfl)
          simp only [Act.put, List.getElem_toArray, List.getElem_cons_succ, List.getElem_cons_zero, List.setIfInBounds_toArray, List.set_cons_zero, List.set_cons_succ]
          refine wpAnyH_take (i := 4) (v := ?vz4b) rfl (by kernel_rfl) (by kernel_rfl) (by kernel_rfl) (fun _ _ _ h => h) (Or.inl ⟨by rfl, ?yz4b⟩) hHeld ?rz4b
          case yz4b => (intro w' hSw; obtain ⟨c0, c1, c2, c3, c4, d0, d1, d2, d3, d4, d5, d6, d7⟩ := HG.out w' (HK11.out.trans hSw); go_simp; try with_reducible rfl)
          simp only [Act.put, List.getElem_toArray, List.getElem_cons_succ, List.getElem_cons_zero, List.setIfInBounds_toArray, List.set_cons_zero, List.set_cons_succ]
          refine wpAnyH_ready (rs := [5]) (by kernel_rfl) (by simp) ?_
          refine AllReadyH.cons rfl (fun KR hK => ?_) AllReadyH.nil
          go_simp
          refine (HC0.out _ (HEN.out.more (HKW.out.trans (HK11.out.trans hHeld)))).mono ?_
          rintro r x12 ⟨rfl, hk⟩
          dsimp only
          refine hK.out _ _ (hHeld.trans hk) (fun hHeld => ?_)
          clear hK KR hk
          try simp only [Act.put, List.getElem_toArray, List.getElem_cons_succ, List.getElem_cons_zero, List.setIfInBounds_toArray, List.set_cons_zero, List.set_cons_succ]
          refine wpAnyH_take (i := 6) (v := ?vz6b) rfl (by kernel_rfl) (by kernel_rfl) (by kernel_rfl) (fun _ _ _ h => h) (Or.inl ⟨by rfl, ?yz6b⟩) hHeld ?rz6b
          case yz6b => (intro w' hSw; go_simp; try with_reducible rfl)
          simp only [Act.put, List.getElem_toArray, List.getElem_cons_succ, List.getElem_cons_zero, List.setIfInBounds_toArray, List.set_cons_zero, List.set_cons_succ]
          refine wpAnyH_take (i := 7) (v := ?vz7b) rfl (by kernel_rfl) (by kernel_rfl) (by kernel_rfl) (fun _ _ _ h => h) (Or.inl ⟨by rfl, ?yz7b⟩) hHeld ?rz7b
          case yz7b => (intro w' hSw; go_simp; try with_reducible rfl)
          simp only [Act.put, List.getElem_toArray, List.getElem_cons_succ, List.getElem_cons_zero, List.setIfInBounds_toArray, List.set_cons_zero, List.set_cons_succ]
          refine wpAnyH_take (i := 8) (v := ?vz8b) rfl (by kernel_rfl) (by kernel_rfl) (by kernel_rfl) (fun _ _ _ h => h) (Or.inl ⟨by rfl, ?yz8b⟩) hHeld ?rz8b
          case yz8b => (intro w' hSw; go_simp; try with_reducible rfl)
          simp only [Act.put, List.getElem_toArray, List.getElem_cons_succ, List.getElem_cons_zero, List.setIfInBounds_toArray, List.set_cons_zero, List.set_cons_succ]
          refine wpAnyH_take (i := 10) (v := ?vz10b) rfl (by kernel_rfl) (by kernel_rfl) (by kernel_rfl) (fun _ _ _ h => h) (Or.inl ⟨by rfl, ?yz10b⟩) hHeld ?rz10b
          case yz10b => (intro w' hSw; obtain ⟨c0, c1, c2, c3, c4, d0, d1, d2, d3, d4, d5, d6, d7⟩ := HG.out w' (HK11.out.trans hSw); go_simp; try with_reducible rfl)
          simp only [Act.put, List.getElem_toArray, List.getElem_cons_succ, List.getElem_cons_zero, List.setIfInBounds_toArray, List.set_cons_zero, List.set_cons_succ]
          refine wpAnyH_ready (rs := [9]) (by kernel_rfl) (by simp) ?_
          refine AllReadyH.cons rfl (fun KR hK => ?_) AllReadyH.nil
          go_simp
          refine (HEU.out _ hHeld).mono ?_
          rintro r wz ⟨rfl, hwz⟩
          rw [hwz]
          clear hwz wz
          dsimp only
          refine hK.out _ _ hHeld (fun hHeld => ?_)
          clear hK KR
          try simp only [Act.put, List.getElem_toArray, List.getElem_cons_succ, List.getElem_cons_zero, List.setIfInBounds_toArray, List.set_cons_zero, List.set_cons_succ]
          refine wpAnyH_ready (rs := [11]) (by kernel_rfl) (by simp) ?_
          refine AllReadyH.cons rfl (fun KR hK => ?_) AllReadyH.nil
          go_simp
          refine (HC0.out _ (HEN.out.more (HKW.out.trans (HK11.out.trans hHeld)))).mono ?_
          rintro r x13 ⟨rfl, hk⟩
          dsimp only
          refine hK.out _ _ (hHeld.trans hk) (fun hHeld => ?_)
          clear hK KR hk
          try simp only [Act.put, List.getElem_toArray, List.getElem_cons_succ, List.getElem_cons_zero, List.setIfInBounds_toArray, List.set_cons_zero, List.set_cons_succ]
          refine wpAnyH_take (i := 12) (v := ?vz12b) rfl (by kernel_rfl) (by kernel_rfl) (by kernel_rfl) (fun _ _ _ h => h) (Or.inl ⟨by rfl, ?yz12b⟩) hHeld ?rz12b
          case yz12b => (intro w' hSw; go_simp; try with_reducible rfl)
          simp only [Act.put, List.getElem_toArray, List.getElem_cons_succ, List.getElem_cons_zero, List.setIfInBounds_toArray, List.set_cons_zero, List.set_cons_succ]
          refine wpAnyH_take (i := 13) (v := ?vz13b) rfl (by kernel_rfl) (by kernel_rfl) (by kernel_rfl) (fun _ _ _ h => h) (Or.inl ⟨by rfl, ?yz13b⟩) hHeld ?rz13b
          case yz13b => (intro w' hSw; go_simp; try with_reducible rfl)
          simp only [Act.put, List.getElem_toArray, List.getElem_cons_succ, List.getElem_cons_zero, List.setIfInBounds_toArray, List.set_cons_zero, List.set_cons_succ]
          refine wpAnyH_take (i := 14) (v := ?vz14b) rfl (by kernel_rfl) (by kernel_rfl) (by kernel_rfl) (fun _ _ _ h => h) (Or.inl ⟨by rfl, ?yz14b⟩) hHeld ?rz14b
          case yz14b => (intro w' hSw; go_simp; try with_reducible rfl)
          simp only [Act.put, List.getElem_toArray, List.getElem_cons_succ, List.getElem_cons_zero, List.setIfInBounds_toArray, List.set_cons_zero, List.set_cons_succ]
          refine wpAnyH_take (i := 15) (v := ?vz15b) rfl (by kernel_rfl) (by kernel_rfl) (by kernel_rfl) (fun _ _ _ h => h) (Or.inl ⟨by rfl, ?yz15b⟩) hHeld ?rz15b
          case yz15b => (intro w' hSw; go_simp; try with_reducible rfl)
          simp only [Act.put, List.getElem_toArray, List.getElem_cons_succ, List.getElem_cons_zero, List.setIfInBounds_toArray, List.set_cons_zero, List.set_cons_succ]
          refine wpAnyH_take (i := 16) (v := ?vz16b) rfl (by kernel_rfl) (by kernel_rfl) (by kernel_rfl) (fun _ _ _ h => h) (Or.inl ⟨by rfl, ?yz16b⟩) hHeld ?rz16b
          case yz16b => (intro w' hSw; obtain ⟨c0, c1, c2, c3, c4, d0, d1, d2, d3, d4, d5, d6, d7⟩ := HG.out w' (HK11.out.trans hSw); go_simp; try with_reducible rfl)
          simp only [Act.put, List.getElem_toArray, List.getElem_cons_succ, List.getElem_cons_zero, List.setIfInBounds_toArray, List.set_cons_zero, List.set_cons_succ]
          refine wpAnyH_ready (rs := [17]) (by kernel_rfl) (by simp) ?_
          refine AllReadyH.cons rfl (fun KR hK => ?_) AllReadyH.nil
          go_simp
          refine (HC1.out _ (HEN'.out.more (HKW.out.trans (HK11.out.trans hHeld)))).mono ?_
          rintro r x14 ⟨rfl, hk⟩
          dsimp only
          refine hK.out _ _ (hHeld.trans hk) (fun hHeld => ?_)
          clear hK KR hk
          try simp only [Act.put, List.getElem_toArray, List.getElem_cons_succ, List.getElem_cons_zero, List.setIfInBounds_toArray, List.set_cons_zero, List.set_cons_succ]
          refine wpAnyH_take (i := 18) (v := ?vz18b) rfl (by kernel_rfl) (by kernel_rfl) (by kernel_rfl) (fun _ _ _ h => h) (Or.inl ⟨by rfl, ?yz18b⟩) hHeld ?rz18b
          case yz18b => (intro w' hSw; go_simp; try with_reducible rfl)
          simp only [Act.put, List.getElem_toArray, List.getElem_cons_succ, List.getElem_cons_zero, List.setIfInBounds_toArray, List.set_cons_zero, List.set_cons_succ]
          refine wpAnyH_take (i := 19) (v := ?vz19b) rfl (by kernel_rfl) (by kernel_rfl) (by kernel_rfl) (fun _ _ _ h => h) (Or.inl ⟨by rfl, ?yz19b⟩) hHeld ?rz19b
          case yz19b => (intro w' hSw; go_simp; try with_reducible rfl)
          simp only [Act.put, List.getElem_toArray, List.getElem_cons_succ, List.getElem_cons_zero, List.setIfInBounds_toArray, List.set_cons_zero, List.set_cons_succ]
          refine wpAnyH_take (i := 20) (v := undef) rfl (by kernel_rfl) (by kernel_rfl) (by kernel_rfl) (fun _ _ _ h => h) (Or.inr ⟨by rfl, rfl⟩) hHeld ?_
          simp only [Act.put, List.getElem_toArray, List.getElem_cons_succ, List.getElem_cons_zero, List.setIfInBounds_toArray, List.set_cons_zero, List.set_cons_succ]
          refine wpAnyH_take (i := 21) (v := undef) rfl (by kernel_rfl) (by kernel_rfl) (by kernel_rfl) (fun _ _ _ h => h) (Or.inr ⟨by rfl, rfl⟩) hHeld ?_
          simp only [Act.put, List.getElem_toArray, List.getElem_cons_succ, List.getElem_cons_zero, List.setIfInBounds_toArray, List.set_cons_zero, List.set_cons_succ]
          refine wpAnyH_take (i := 22) (v := undef) rfl (by kernel_rfl) (by kernel_rfl) (by kernel_rfl) (fun _ _ _ h => h) (Or.inr ⟨by rfl, rfl⟩) hHeld ?_
          simp only [Act.put, List.getElem_toArray, List.getElem_cons_succ, List.getElem_cons_zero, List.setIfInBounds_toArray, List.set_cons_zero, List.set_cons_succ]
          refine wpAnyH_take (i := 23) (v := undef) rfl (by kernel_rfl) (by kernel_rfl) (by kernel_rfl) (fun _ _ _ h => h) (Or.inr ⟨by rfl, rfl⟩) hHeld ?_
          simp only [Act.put, List.getElem_toArray, List.getElem_cons_succ, List.getElem_cons_zero, List.setIfInBounds_toArray, List.set_cons_zero, List.set_cons_succ]
          refine wpAnyH_take (i := 24) (v := undef) rfl (by kernel_rfl) (by kernel_rfl) (by kernel_rfl) (fun _ _ _ h => h) (Or.inr ⟨by rfl, rfl⟩) hHeld ?_
          simp only [Act.put, List.getElem_toArray, List.getElem_cons_succ, List.getElem_cons_zero, List.setIfInBounds_toArray, List.set_cons_zero, List.set_cons_succ]
          refine wpAnyH_take (i := 25) (v := ?vz25b) rfl (by kernel_rfl) (by kernel_rfl) (by kernel_rfl) (fun _ _ _ h => h) (Or.inl ⟨by rfl, ?yz25b⟩) hHeld ?rz25b
          case yz25b => (intro w' hSw; go_simp; try with_reducible rfl)
          simp only [Act.put, List.getElem_toArray, List.getElem_cons_succ, List.getElem_cons_zero, List.setIfInBounds_toArray, List.set_cons_zero, List.set_cons_succ]
          refine wpAnyH_take (i := 26) (v := ?vz26b) rfl (by kernel_rfl) (by kernel_rfl) (by kernel_rfl) (fun _ _ _ h => h) (Or.inl ⟨by rfl, ?yz26b⟩) hHeld ?rz26b
          case yz26b => (intro w' hSw; go_simp; try with_reducible rfl)
          simp only [Act.put, List.getElem_toArray, List.getElem_cons_succ, List.getElem_cons_zero, List.setIfInBounds_toArray, List.set_cons_zero, List.set_cons_succ]
          refine wpAnyH_take (i := 27) (v := ?vz27b) rfl (by kernel_rfl) (by kernel_rfl) (by kernel_rfl) (fun _ _ _ h => h) (Or.inl ⟨by rfl, ?yz27b⟩) hHeld ?rz27b
          case yz27b => (intro w' hSw; go_simp; try with_reducible rfl)
          simp only [Act.put, List.getElem_toArray, List.getElem_cons_succ, List.getElem_cons_zero, List.setIfInBounds_toArray, List.set_cons_zero, List.set_cons_succ]
          refine wpAnyH_take (i := 28) (v := ?vz28b) rfl (by kernel_rfl) (by kernel_rfl) (by kernel_rfl) (fun _ _ _ h => h) (Or.inl ⟨by rfl, ?yz28b⟩) hHeld ?rz28b
          case yz28b => (intro w' hSw; go_simp; try with_reducible rfl)
          simp only [Act.put, List.getElem_toArray, List.getElem_cons_succ, List.getElem_cons_zero, List.setIfInBounds_toArray, List.set_cons_zero, List.set_cons_succ]
          refine wpAnyH_ready (rs := [29]) (by kernel_rfl) (by simp) ?_
          refine AllReadyH.cons rfl (fun KR hK => ?_) AllReadyH.nil
          go_simp
          refine (err_nil _).mono ?_
          rintro r wz ⟨rfl, hwz⟩
          rw [hwz]
          clear hwz wz
          dsimp only
          refine hK.out _ _ hHeld (fun hHeld => ?_)
          clear hK KR
          try simp only [Act.put, List.getElem_toArray, List.getElem_cons_succ, List.getElem_cons_zero, List.setIfInBounds_toArray, List.set_cons_zero, List.set_cons_succ]
          refine wpAnyH_take (i := 30) (v := ?vz30b) rfl (by kernel_rfl) (by kernel_rfl) (by kernel_rfl) (fun _ _ _ h => h) (Or.inl ⟨by rfl, ?yz30b⟩) hHeld ?rz30b
          case yz30b => (intro w' hSw; go_simp; try with_reducible rfl)
          simp only [Act.put, List.getElem_toArray, List.getElem_cons_succ, List.getElem_cons_zero, List.setIfInBounds_toArray, List.set_cons_zero, List.set_cons_succ]
          refine wpAnyH_take (i := 31) (v := ?vz31b) rfl (by kernel_rfl) (by kernel_rfl) (by kernel_rfl) (fun _ _ _ h => h) (Or.inl ⟨by rfl, ?yz31b⟩) hHeld ?rz31b
          case yz31b => (intro w' hSw; go_simp; try with_reducible rfl)
          simp only [Act.put, List.getElem_toArray, List.getElem_cons_succ, List.getElem_cons_zero, List.setIfInBounds_toArray, List.set_cons_zero, List.set_cons_succ]
          refine wpAnyH_take (i := 32) (v := ?vz32b) rfl (by kernel_rfl) (by kernel_rfl) (by kernel_rfl) (fun _ _ _ h => h) (Or.inl ⟨by rfl, ?yz32b⟩) hHeld ?rz32b
          case yz32b => (intro w' hSw; go_simp; try with_reducible rfl)
          simp only [Act.put, List.getElem_toArray, List.getElem_cons_succ, List.getElem_cons_zero, List.setIfInBounds_toArray, List.set_cons_zero, List.set_cons_succ]
          refine wpAnyH_take (i := 33) (v := ?vz33b) rfl (by kernel_rfl) (by kernel_rfl) (by kernel_rfl) (fun _ _ _ h => h) (Or.inl ⟨by rfl, ?yz33b⟩) hHeld ?rz33b
          case yz33b => (intro w' hSw; go_simp; try with_reducible rfl)
          simp only [Act.put, List.getElem_toArray, List.getElem_cons_succ, List.getElem_cons_zero, List.setIfInBounds_toArray, List.set_cons_zero, List.set_cons_succ]
          refine wpAnyH_ready (rs := [34]) (by kernel_rfl) (by simp) ?_
          refine AllReadyH.cons rfl (fun KR hK => ?_) AllReadyH.nil
          go_simp
          refine (end_nil _).mono ?_
          rintro r wz ⟨rfl, hwz⟩
          rw [hwz]
          clear hwz wz
          dsimp only
          refine hK.out _ _ hHeld (fun hHeld => ?_)
          clear hK KR
          try simp only [Act.put, List.getElem_toArray, List.getElem_cons_succ, List.getElem_cons_zero, List.setIfInBounds_toArray, List.set_cons_zero, List.set_cons_succ]
          refine wpAnyH_take (i := 35) (v := ?vz35b) rfl (by kernel_rfl) (by kernel_rfl) (by kernel_rfl) (fun _ _ _ h => h) (Or.inl ⟨by rfl, ?yz35b⟩) hHeld ?rz35b
          case yz35b => (intro w' hSw; go_simp; try with_reducible rfl)
          simp only [Act.put, List.getElem_toArray, List.getElem_cons_succ, List.getElem_cons_zero, List.setIfInBounds_toArray, List.set_cons_zero, List.set_cons_succ]
          refine wpAnyH_take (i := 36) (v := ?vz36b) rfl (by kernel_rfl) (by kernel_rfl) (by kernel_rfl) (fun _ _ _ h => h) (Or.inl ⟨by rfl, ?yz36b⟩) hHeld ?rz36b
          case yz36b => (intro w' hSw; go_simp; try with_reducible rfl)
          simp only [Act.put, List.getElem_toArray, List.getElem_cons_succ, List.getElem_cons_zero, List.setIfInBounds_toArray, List.set_cons_zero, List.set_cons_succ]
          refine wpAnyH_take (i := 37) (v := ?vz37b) rfl (by kernel_rfl) (by kernel_rfl) (by kernel_rfl) (fun _ _ _ h => h) (Or.inl ⟨by rfl, ?yz37b⟩) hHeld ?rz37b
          case yz37b => (intro w' hSw; go_simp; try with_reducible rfl)
          simp only [Act.put, List.getElem_toArray, List.getElem_cons_succ, List.getElem_cons_zero, List.setIfInBounds_toArray, List.set_cons_zero, List.set_cons_succ]
          refine wpAnyH_take (i := 38) (v := ?vz38b) rfl (by kernel_rfl) (by kernel_rfl) (by kernel_rfl) (fun _ _ _ h => h) (Or.inl ⟨by rfl, ?yz38b⟩) hHeld ?rz38b
          case yz38b => (intro w' hSw; go_simp; try with_reducible rfl)
          simp only [Act.put, List.getElem_toArray, List.getElem_cons_succ, List.getElem_cons_zero, List.setIfInBounds_toArray, List.set_cons_zero, List.set_cons_succ]
          refine wpAnyH_take (i := 39) (v := ?vz39b) rfl (by kernel_rfl) (by kernel_rfl) (by kernel_rfl) (fun _ _ _ h => h) (Or.inl ⟨by rfl, ?yz39b⟩) hHeld ?rz39b
          case yz39b => (intro w' hSw; obtain ⟨c0, c1, c2, c3, c4, d0, d1, d2, d3, d4, d5, d6, d7⟩ := HG.out w' (HK11.out.trans hSw); go_simp; try with_reducible rfl)
          simp only [Act.put, List.getElem_toArray, List.getElem_cons_succ, List.getElem_cons_zero, List.setIfInBounds_toArray, List.set_cons_zero, List.set_cons_succ]
          refine wpAnyH_ready (rs := [40]) (by kernel_rfl) (by simp) ?_
          refine AllReadyH.cons rfl (fun KR hK => ?_) AllReadyH.nil
          go_simp
          refine (int_nil K Bl le bi A n c _).mono ?_
          rintro r x15 ⟨rfl, hk⟩
          dsimp only
          refine hK.out _ _ (hHeld.trans hk) (fun hHeld => ?_)
          clear hK KR hk
          try simp only [Act.put, List.getElem_toArray, List.getElem_cons_succ, List.getElem_cons_zero, List.setIfInBounds_toArray, List.set_cons_zero, List.set_cons_succ]
          refine wpAnyH_take (i := 41) (v := ?vz41b) rfl (by kernel_rfl) (by kernel_rfl) (by kernel_rfl) (fun _ _ _ h => h) (Or.inl ⟨by rfl, ?yz41b⟩) hHeld ?rz41b
          case yz41b => (intro w' hSw; go_simp; try with_reducible rfl)
          simp only [Act.put, List.getElem_toArray, List.getElem_cons_succ, List.getElem_cons_zero, List.setIfInBounds_toArray, List.set_cons_zero, List.set_cons_succ]
          refine wpAnyH_take (i := 42) (v := ?vz42b) rfl (by kernel_rfl) (by kernel_rfl) (by kernel_rfl) (fun _ _ _ h => h) (Or.inl ⟨by rfl, ?yz42b⟩) hHeld ?rz42b
          case yz42b => (intro w' hSw; go_simp; try with_reducible rfl)
          simp only [Act.put, List.getElem_toArray, List.getElem_cons_succ, List.getElem_cons_zero, List.setIfInBounds_toArray, List.set_cons_zero, List.set_cons_succ]
          refine wpAnyH_take (i := 43) (v := ?vz43b) rfl (by kernel_rfl) (by kernel_rfl) (by kernel_rfl) (fun _ _ _ h => h) (Or.inl ⟨by rfl, ?yz43b⟩) hHeld ?rz43b
          case yz43b => (intro w' hSw; go_simp; try with_reducible rfl)
          simp only [Act.put, List.getElem_toArray, List.getElem_cons_succ, List.getElem_cons_zero, List.setIfInBounds_toArray, List.set_cons_zero, List.set_cons_succ]
          refine wpAnyH_take (i := 44) (v := ?vz44b) rfl (by kernel_rfl) (by kernel_rfl) (by kernel_rfl) (fun _ _ _ h => h) (Or.inl ⟨by rfl, ?yz44b⟩) hHeld ?rz44b
          case yz44b => (intro w' hSw; go_simp; try with_reducible rfl)
          simp only [Act.put, List.getElem_toArray, List.getElem_cons_succ, List.getElem_cons_zero, List.setIfInBounds_toArray, List.set_cons_zero, List.set_cons_succ]
          refine wpAnyH_take (i := 45) (v := ?vz45b) rfl (by kernel_rfl) (by kernel_rfl) (by kernel_rfl) (fun _ _ _ h => h) (Or.inl ⟨by rfl, ?yz45b⟩) hHeld ?rz45b
          case yz45b => (intro w' hSw; obtain ⟨c0, c1, c2, c3, c4, d0, d1, d2, d3, d4, d5, d6, d7⟩ := HG.out w' (HK11.out.trans hSw); go_simp; try with_reducible rfl)
          simp only [Act.put, List.getElem_toArray, List.getElem_cons_succ, List.getElem_cons_zero, List.setIfInBounds_toArray, List.set_cons_zero, List.set_cons_succ]
          refine wpAnyH_ready (rs := [46]) (by kernel_rfl) (by simp) ?_
          refine AllReadyH.cons rfl (fun KR hK => ?_) AllReadyH.nil
          go_simp
          refine (array_nil _ _).mono ?_
          rintro r x16 ⟨rfl, hk⟩
          dsimp only
          refine hK.out _ _ (hHeld.trans hk) (fun hHeld => ?_)
          clear hK KR hk
          try simp only [Act.put, List.getElem_toArray, List.getElem_cons_succ, List.getElem_cons_zero, List.setIfInBounds_toArray, List.set_cons_zero, List.set_cons_succ]
          refine wpAnyH_take (i := 47) (v := ?vz47b) rfl (by kernel_rfl) (by kernel_rfl) (by kernel_rfl) (fun _ _ _ h => h) (Or.inl ⟨by rfl, ?yz47b⟩) hHeld ?rz47b
          case yz47b => (intro w' hSw; go_simp; try with_reducible rfl)
          simp only [Act.put, List.getElem_toArray, List.getElem_cons_succ, List.getElem_cons_zero, List.setIfInBounds_toArray, List.set_cons_zero, List.set_cons_succ]
          refine wpAnyH_take (i := 48) (v := ?vz48b) rfl (by kernel_rfl) (by kernel_rfl) (by kernel_rfl) (fun _ _ _ h => h) (Or.inl ⟨by rfl, ?yz48b⟩) hHeld ?rz48b
          case yz48b => (intro w' hSw; go_simp; try with_reducible rfl)
          simp only [Act.put, List.getElem_toArray, List.getElem_cons_succ, List.getElem_cons_zero, List.setIfInBounds_toArray, List.set_cons_zero, List.set_cons_succ]
          refine wpAnyH_take (i := 49) (v := ?vz49b) rfl (by kernel_rfl) (by kernel_rfl) (by kernel_rfl) (fun _ _ _ h => h) (Or.inl ⟨by rfl, ?yz49b⟩) hHeld ?rz49b
          case yz49b => (intro w' hSw; go_simp; try with_reducible rfl)
          simp only [Act.put, List.getElem_toArray, List.getElem_cons_succ, List.getElem_cons_zero, List.setIfInBounds_toArray, List.set_cons_zero, List.set_cons_succ]
          refine wpAnyH_take (i := 50) (v := ?vz50b) rfl (by kernel_rfl) (by kernel_rfl) (by kernel_rfl) (fun _ _ _ h => h) (Or.inl ⟨by rfl, ?yz50b⟩) hHeld ?rz50b
          case yz50b => (intro w' hSw; go_simp; try with_reducible rfl)
          simp only [Act.put, List.getElem_toArray, List.getElem_cons_succ, List.getElem_cons_zero, List.setIfInBounds_toArray, List.set_cons_zero, List.set_cons_succ]
          refine wpAnyH_take (i := 51) (v := ?vz51b) rfl (by kernel_rfl) (by kernel_rfl) (by kernel_rfl) (fun _ _ _ h => h) (Or.inl ⟨by rfl, ?yz51b⟩) hHeld ?rz51b
          case yz51b => (intro w' hSw; go_simp; try with_reducible rfl)
          simp only [Act.put, List.getElem_toArray, List.getElem_cons_succ, List.getElem_cons_zero, List.setIfInBounds_toArray, List.set_cons_zero, List.set_cons_succ]
          refine wpAnyH_take (i := 52) (v := ?vz52b) rfl (by kernel_rfl) (by kernel_rfl) (by kernel_rfl) (fun _ _ _ h => h) (Or.inl ⟨by rfl, ?yz52b⟩) hHeld ?rz52b
          case yz52b => (intro w' hSw; obtain ⟨c0, c1, c2, c3, c4, d0, d1, d2, d3, d4, d5, d6, d7⟩ := HG.out w' (HK11.out.trans hSw); go_simp; try with_reducible rfl)
          simp only [Act.put, List.getElem_toArray, List.getElem_cons_succ, List.getElem_cons_zero, List.setIfInBounds_toArray, List.set_cons_zero, List.set_cons_succ]
          refine wpAnyH_ready (rs := [53]) (by kernel_rfl) (by simp) ?_
          refine AllReadyH.cons rfl (fun KR hK => ?_) AllReadyH.nil
          go_simp
          refine (within_nil _ 1 2 _).mono ?_
          rintro r x17 ⟨rfl, hk⟩
          dsimp only
          refine hK.out _ _ (hHeld.trans hk) (fun hHeld => ?_)
          clear hK KR hk
          try simp only [Act.put, List.getElem_toArray, List.getElem_cons_succ, List.getElem_cons_zero, List.setIfInBounds_toArray, List.set_cons_zero, List.set_cons_succ]
          refine wpAnyH_take (i := 54) (v := ?vz54b) rfl (by kernel_rfl) (by kernel_rfl) (by kernel_rfl) (fun _ _ _ h => h) (Or.inl ⟨by rfl, ?yz54b⟩) hHeld ?rz54b
          case yz54b => (intro w' hSw; go_simp; try with_reducible rfl)
          simp only [Act.put, List.getElem_toArray, List.getElem_cons_succ, List.getElem_cons_zero, List.setIfInBounds_toArray, List.set_cons_zero, List.set_cons_succ]
          refine wpAnyH_take (i := 55) (v := ?vz55b) rfl (by kernel_rfl) (by kernel_rfl) (by kernel_rfl) (fun _ _ _ h => h) (Or.inl ⟨by rfl, ?yz55b⟩) hHeld ?rz55b
          case yz55b => (intro w' hSw; go_simp; try with_reducible rfl)
          simp only [Act.put, List.getElem_toArray, List.getElem_cons_succ, List.getElem_cons_zero, List.setIfInBounds_toArray, List.set_cons_zero, List.set_cons_succ]
          refine wpAnyH_take (i := 56) (v := ?vz56b) rfl (by kernel_rfl) (by kernel_rfl) (by kernel_rfl) (fun _ _ _ h => h) (Or.inl ⟨by rfl, ?yz56b⟩) hHeld ?rz56b
          case yz56b => (intro w' hSw; go_simp; try with_reducible rfl)
          simp only [Act.put, List.getElem_toArray, List.getElem_cons_succ, List.getElem_cons_zero, List.setIfInBounds_toArray, List.set_cons_zero, List.set_cons_succ]
          have HKF := Lib.hid hHeld
          refine wpAnyH_done (by kernel_rfl) ?_ _
          clear hHeld
          refine NoPanic.normal ?_
          go_wp2
          go_ret
          exact ⟨by simp, HKW.out.trans (HK11.out.trans HKF.out)⟩
      · as_aux_lemma =>
          have he1 : (e == 0) = false := by simpa using he0
          obtain rfl := HUE.out he0
          have hf1 : (f == 0) = false := by simpa using hf0
          obtain rfl := HVE.out hf0
          clear HUE HVE
          go_upto_region 21 with fail
          refine wp_region_noPanic ?_
          refine wp_region_held_drew (S := fun w' => Keeps (fun _ => False) w11 w') (by kernel_rfl) KC.out (fun hHeld => ?_)
          refine wpAnyH_take (i := 0) (v := ?vz0a) rfl (by kernel_rfl) (by kernel_rfl) (by kernel_rfl) (fun _ _ _ h => h) (Or.inl ⟨by rfl, ?yz0a⟩) hHeld ?rz0a
          case yz0a => (intro w' hSw; go_simp; try with_reducible rfl)
          simp only [Act.put, List.getElem_toArray, List.getElem_cons_succ, List.getElem_cons_zero, List.setIfInBounds_toArray, List.set_cons_zero, List.set_cons_succ]
          refine wpAnyH_ready (rs := [1]) (by kernel_rfl) (by simp) ?_
          refine AllReadyH.cons rfl (fun KR hK => ?_) AllReadyH.nil
          go_simp
          refine (HEZ.out _ hHeld).mono ?_
          rintro r wz ⟨rfl, hwz⟩
          rw [hwz]
          clear hwz wz
          dsimp only
          refine hK.out _ _ hHeld (fun hHeld => ?_)
          clear hK KR
          try simp only [Act.put, List.getElem_toArray, List.getElem_cons_succ, List.getElem_cons_zero, List.setIfInBounds_toArray, List.set_cons_zero, List.set_cons_succ]
          refine wpAnyH_take (i := 2) (v := ?vz2a) rfl (by kernel_rfl) (by kernel_rfl) (by kernel_rfl) (fun _ _ _ h => h) (Or.inl ⟨by rfl, ?yz2a⟩) hHeld ?rz2a
          case yz2a => (intro w' hSw; go_simp; try with_reducible rfl)
          simp only [Act.put, List.getElem_toArray, List.getElem_cons_succ, List.getElem_cons_zero, List.setIfInBounds_toArray, List.set_cons_zero, List.set_cons_succ]
          refine wpAnyH_take (i := 3) (v := ?vz3a) rfl (by kernel_rfl) (by kernel_rfl) (by kernel_rfl) (fun _ _ _ h => h) (Or.inl ⟨by rfl, ?yz3a⟩) hHeld ?rz3a
          case yz3a => (intro w' hSw; go_simp; try with_reducible rfl)
          simp only [Act.put, List.getElem_toArray, List.getElem_cons_succ, List.getElem_cons_zero, List.setIfInBounds_toArray, List.set_cons_zero, List.set_cons_succ]
          refine wpAnyH_take (i := 4) (v := ?vz4a) rfl (by kernel_rfl) (by kernel_rfl) (by kernel_rfl) (fun _ _ _ h => h) (Or.inl ⟨by rfl, ?yz4a⟩) hHeld ?rz4a
          case yz4a => (intro w' hSw; obtain ⟨c0, c1, c2, c3, c4, d0, d1, d2, d3, d4, d5, d6, d7⟩ := HG.out w' (HK11.out.trans hSw); go_simp; try with_reducible rfl)
          simp only [Act.put, List.getElem_toArray, List.getElem_cons_succ, List.getElem_cons_zero, List.setIfInBounds_toArray, List.set_cons_zero, List.set_cons_succ]
          refine wpAnyH_ready (rs := [5]) (by kernel_rfl) (by simp) ?_
          refine AllReadyH.cons rfl (fun KR hK => ?_) AllReadyH.nil
          go_simp
          refine (HC0.out _ (HEN.out.more (HKW.out.trans (HK11.out.trans hHeld)))).mono ?_
          rintro r x18 ⟨rfl, hk⟩
          dsimp only
          refine hK.out _ _ (hHeld.trans hk) (fun hHeld => ?_)
          clear hK KR hk
          try simp only [Act.put, List.getElem_toArray, List.getElem_cons_succ, List.getElem_cons_zero, List.setIfInBounds_toArray, List.set_cons_zero, List.set_cons_succ]
          refine wpAnyH_take (i := 6) (v := ?vz6a) rfl (by kernel_rfl) (by kernel_rfl) (by kernel_rfl) (fun _ _ _ h => h) (Or.inl ⟨by rfl, ?yz6a⟩) hHeld ?rz6a
          case yz6a => (intro w' hSw; go_simp; try with_reducible rfl)
          simp only [Act.put, List.getElem_toArray, List.getElem_cons_succ, List.getElem_cons_zero, List.setIfInBounds_toArray, List.set_cons_zero, List.set_cons_succ]
          refine wpAnyH_take (i := 7) (v := ?vz7a) rfl (by kernel_rfl) (by kernel_rfl) (by kernel_rfl) (fun _ _ _ h => h) (Or.inl ⟨by rfl, ?yz7a⟩) hHeld ?rz7a
          case yz7a => (intro w' hSw; go_simp; try with_reducible rfl)
          simp only [Act.put, List.getElem_toArray, List.getElem_cons_succ, List.getElem_cons_zero, List.setIfInBounds_toArray, List.set_cons_zero, List.set_cons_succ]
          refine wpAnyH_take (i := 8) (v := ?vz8a) rfl (by kernel_rfl) (by kernel_rfl) (by kernel_rfl) (fun _ _ _ h => h) (Or.inl ⟨by rfl, ?yz8a⟩) hHeld ?rz8a
          case yz8a => (intro w' hSw; go_simp; try with_reducible rfl)
          simp only [Act.put, List.getElem_toArray, List.getElem_cons_succ, List.getElem_cons_zero, List.setIfInBounds_toArray, List.set_cons_zero, List.set_cons_succ]
          refine wpAnyH_take (i := 10) (v := ?vz10a) rfl (by kernel_rfl) (by kernel_rfl) (by kernel_rfl) (fun _ _ _ h => h) (Or.inl ⟨by rfl, ?yz10a⟩) hHeld ?rz10a
          case yz10a => (intro w' hSw; obtain ⟨c0, c1, c2, c3, c4, d0, d1, d2, d3, d4, d5, d6, d7⟩ := HG.out w' (HK11.out.trans hSw); go_simp; try with_reducible rfl)
          simp only [Act.put, List.getElem_toArray, List.getElem_cons_succ, List.getElem_cons_zero, List.setIfInBounds_toArray, List.set_cons_zero, List.set_cons_succ]
          refine wpAnyH_ready (rs := [9]) (by kernel_rfl) (by simp) ?_
          refine AllReadyH.cons rfl (fun KR hK => ?_) AllReadyH.nil
          go_simp
          refine (HEU.out _ hHeld).mono ?_
          rintro r wz ⟨rfl, hwz⟩
          rw [hwz]
          clear hwz wz
          dsimp only
          refine hK.out _ _ hHeld (fun hHeld => ?_)
          clear hK KR
          try simp only [Act.put, List.getElem_toArray, List.getElem_cons_succ, List.getElem_cons_zero, List.setIfInBounds_toArray, List.set_cons_zero, List.set_cons_succ]
          refine wpAnyH_ready (rs := [11]) (by kernel_rfl) (by simp) ?_
          refine AllReadyH.cons rfl (fun KR hK => ?_) AllReadyH.nil
          go_simp
          refine (HC0.out _ (HEN.out.more (HKW.out.trans (HK11.out.trans hHeld)))).mono ?_
          rintro r x19 ⟨rfl, hk⟩
          dsimp only
          refine hK.out _ _ (hHeld.trans hk) (fun hHeld => ?_)
          clear hK KR hk
          try simp only [Act.put, List.getElem_toArray, List.getElem_cons_succ, List.getElem_cons_zero, List.setIfInBounds_toArray, List.set_cons_zero, List.set_cons_succ]
          refine wpAnyH_take (i := 12) (v := ?vz12a) rfl (by kernel_rfl) (by kernel_rfl) (by kernel_rfl) (fun _ _ _ h => h) (Or.inl ⟨by rfl, ?yz12a⟩) hHeld ?rz12a
          case yz12a => (intro w' hSw; go_simp; try with_reducible rfl)
          simp only [Act.put, List.getElem_toArray, List.getElem_cons_succ, List.getElem_cons_zero, List.setIfInBounds_toArray, List.set_cons_zero, List.set_cons_succ]
          refine wpAnyH_take (i := 13) (v := ?vz13a) rfl (by kernel_rfl) (by kernel_rfl) (by kernel_rfl) (fun _ _ _ h => h) (Or.inl ⟨by rfl, ?yz13a⟩) hHeld ?rz13a
          case yz13a => (intro w' hSw; go_simp; try with_reducible rfl)
          simp only [Act.put, List.getElem_toArray, List.getElem_cons_succ, List.getElem_cons_zero, List.setIfInBounds_toArray, List.set_cons_zero, List.set_cons_succ]
          refine wpAnyH_take (i := 14) (v := ?vz14a) rfl (by kernel_rfl) (by kernel_rfl) (by kernel_rfl) (fun _ _ _ h => h) (Or.inl ⟨by rfl, ?yz14a⟩) hHeld ?rz14a
          case yz14a => (intro w' hSw; go_simp; try with_reducible rfl)
          simp only [Act.put, List.getElem_toArray, List.getElem_cons_succ, List.getElem_cons_zero, List.setIfInBounds_toArray, List.set_cons_zero, List.set_cons_succ]
          refine wpAnyH_take (i := 15) (v := ?vz15a) rfl (by kernel_rfl) (by kernel_rfl) (by kernel_rfl) (fun _ _ _ h => h) (Or.inl ⟨by rfl, ?yz15a⟩) hHeld ?rz15a
          case yz15a => (intro w' hSw; go_simp; try with_reducible rfl)
          simp only [Act.put, List.getElem_toArray, List.getElem_cons_succ, List.getElem_cons_zero, List.setIfInBounds_toArray, List.set_cons_zero, List.set_cons_succ]
          refine wpAnyH_take (i := 16) (v := ?vz16a) rfl (by kernel_rfl) (by kernel_rfl) (by kernel_rfl) (fun _ _ _ h => h) (Or.inl ⟨by rfl, ?yz16a⟩) hHeld ?rz16a
          case yz16a => (intro w' hSw; obtain ⟨c0, c1, c2, c3, c4, d0, d1, d2, d3, d4, d5, d6, d7⟩ := HG.out w' (HK11.out.trans hSw); go_simp; try with_reducible rfl)
          simp only [Act.put, List.getElem_toArray, List.getElem_cons_succ, List.getElem_cons_zero, List.setIfInBounds_toArray, List.set_cons_zero, List.set_cons_succ]
          refine wpAnyH_ready (rs := [17]) (by kernel_rfl) (by simp) ?_
          refine AllReadyH.cons rfl (fun KR hK => ?_) AllReadyH.nil
          go_simp
          refine (HC1.out _ (HEN'.out.more (HKW.out.trans (HK11.out.trans hHeld)))).mono ?_
          rintro r x20 ⟨rfl, hk⟩
          dsimp only
          refine hK.out _ _ (hHeld.trans hk) (fun hHeld => ?_)
          clear hK KR hk
          try simp only [Act.put, List.getElem_toArray, List.getElem_cons_succ, List.getElem_cons_zero, List.setIfInBounds_toArray, List.set_cons_zero, List.set_cons_succ]
          refine wpAnyH_take (i := 18) (v := ?vz18a) rfl (by kernel_rfl) (by kernel_rfl) (by kernel_rfl) (fun _ _ _ h => h) (Or.inl ⟨by rfl, ?yz18a⟩) hHeld ?rz18a
          case yz18a => (intro w' hSw; go_simp; try with_reducible rfl)
          simp only [Act.put, List.getElem_toArray, List.getElem_cons_succ, List.getElem_cons_zero, List.setIfInBounds_toArray, List.set_cons_zero, List.set_cons_succ]
          refine wpAnyH_take (i := 19) (v := ?vz19a) rfl (by kernel_rfl) (by kernel_rfl) (by kernel_rfl) (fun _ _ _ h => h) (Or.inl ⟨by rfl, ?yz19a⟩) hHeld ?rz19a
          case yz19a => (intro w' hSw; go_simp; try with_reducible rfl)
          simp only [Act.put, List.getElem_toArray, List.getElem_cons_succ, List.getElem_cons_zero, List.setIfInBounds_toArray, List.set_cons_zero, List.set_cons_succ]
          refine wpAnyH_take (i := 20) (v := ?vz20a) rfl (by kernel_rfl) (by kernel_rfl) (by kernel_rfl) (fun _ _ _ h => h) (Or.inl ⟨by rfl, ?yz20a⟩) hHeld ?rz20a
          case yz20a => (intro w' hSw; go_simp; try with_reducible rfl)
          simp only [Act.put, List.getElem_toArray, List.getElem_cons_succ, List.getElem_cons_zero, List.setIfInBounds_toArray, List.set_cons_zero, List.set_cons_succ]
          refine wpAnyH_take (i := 22) (v := ?vz22a) rfl (by kernel_rfl) (by kernel_rfl) (by kernel_rfl) (fun _ _ _ h => h) (Or.inl ⟨by rfl, ?yz22a⟩) hHeld ?rz22a
          case yz22a => (intro w' hSw; obtain ⟨c0, c1, c2, c3, c4, d0, d1, d2, d3, d4, d5, d6, d7⟩ := HG.out w' (HK11.out.trans hSw); go_simp; try with_reducible rfl)
          simp only [Act.put, List.getElem_toArray, List.getElem_cons_succ, List.getElem_cons_zero, List.setIfInBounds_toArray, List.set_cons_zero, List.set_cons_succ]
          refine wpAnyH_ready (rs := [21]) (by kernel_rfl) (by simp) ?_
          refine AllReadyH.cons rfl (fun KR hK => ?_) AllReadyH.nil
          go_simp
          refine (HEV.out _ hHeld).mono ?_
          rintro r wz ⟨rfl, hwz⟩
          rw [hwz]
          clear hwz wz
          dsimp only
          refine hK.out _ _ hHeld (fun hHeld => ?_)
          clear hK KR
          try simp only [Act.put, List.getElem_toArray, List.getElem_cons_succ, List.getElem_cons_zero, List.setIfInBounds_toArray, List.set_cons_zero, List.set_cons_succ]
          refine wpAnyH_ready (rs := [23]) (by kernel_rfl) (by simp) ?_
          refine AllReadyH.cons rfl (fun KR hK => ?_) AllReadyH.nil
          go_simp
          refine (HC1.out _ (HEN'.out.more (HKW.out.trans (HK11.out.trans hHeld)))).mono ?_
          rintro r x21 ⟨rfl, hk⟩
          dsimp only
          refine hK.out _ _ (hHeld.trans hk) (fun hHeld => ?_)
          clear hK KR hk
          try simp only [Act.put, List.getElem_toArray, List.getElem_cons_succ, List.getElem_cons_zero, List.setIfInBounds_toArray, List.set_cons_zero, List.set_cons_succ]
          refine wpAnyH_take (i := 24) (v := ?vz24a) rfl (by kernel_rfl) (by kernel_rfl) (by kernel_rfl) (fun _ _ _ h => h) (Or.inl ⟨by rfl, ?yz24a⟩) hHeld ?rz24a
          case yz24a => (intro w' hSw; go_simp; try with_reducible rfl)
          simp only [Act.put, List.getElem_toArray, List.getElem_cons_succ, List.getElem_cons_zero, List.setIfInBounds_toArray, List.set_cons_zero, List.set_cons_succ]
          refine wpAnyH_take (i := 25) (v := ?vz25a) rfl (by kernel_rfl) (by kernel_rfl) (by kernel_rfl) (fun _ _ _ h => h) (Or.inl ⟨by rfl, ?yz25a⟩) hHeld ?rz25a
          case yz25a => (intro w' hSw; go_simp; try with_reducible rfl)
          simp only [Act.put, List.getElem_toArray, List.getElem_cons_succ, List.getElem_cons_zero, List.setIfInBounds_toArray, List.set_cons_zero, List.set_cons_succ]
          refine wpAnyH_take (i := 26) (v := ?vz26a) rfl (by kernel_rfl) (by kernel_rfl) (by kernel_rfl) (fun _ _ _ h => h) (Or.inl ⟨by rfl, ?yz26a⟩) hHeld ?rz26a
          case yz26a => (intro w' hSw; go_simp; try with_reducible rfl)
          simp only [Act.put, List.getElem_toArray, List.getElem_cons_succ, List.getElem_cons_zero, List.setIfInBounds_toArray, List.set_cons_zero, List.set_cons_succ]
          refine wpAnyH_take (i := 27) (v := ?vz27a) rfl (by kernel_rfl) (by kernel_rfl) (by kernel_rfl) (fun _ _ _ h => h) (Or.inl ⟨by rfl, ?yz27a⟩) hHeld ?rz27a
          case yz27a => (intro w' hSw; go_simp; try with_reducible rfl)
          simp only [Act.put, List.getElem_toArray, List.getElem_cons_succ, List.getElem_cons_zero, List.setIfInBounds_toArray, List.set_cons_zero, List.set_cons_succ]
          refine wpAnyH_take (i := 28) (v := ?vz28a) rfl (by kernel_rfl) (by kernel_rfl) (by kernel_rfl) (fun _ _ _ h => h) (Or.inl ⟨by rfl, ?yz28a⟩) hHeld ?rz28a
          case yz28a => (intro w' hSw; go_simp; try with_reducible rfl)
          simp only [Act.put, List.getElem_toArray, List.getElem_cons_succ, List.getElem_cons_zero, List.setIfInBounds_toArray, List.set_cons_zero, List.set_cons_succ]
          refine wpAnyH_ready (rs := [29]) (by kernel_rfl) (by simp) ?_
          refine AllReadyH.cons rfl (fun KR hK => ?_) AllReadyH.nil
          go_simp
          refine (err_nil _).mono ?_
          rintro r wz ⟨rfl, hwz⟩
          rw [hwz]
          clear hwz wz
          dsimp only
          refine hK.out _ _ hHeld (fun hHeld => ?_)
          clear hK KR
          try simp only [Act.put, List.getElem_toArray, List.getElem_cons_succ, List.getElem_cons_zero, List.setIfInBounds_toArray, List.set_cons_zero, List.set_cons_succ]
          refine wpAnyH_take (i := 30) (v := ?vz30a) rfl (by kernel_rfl) (by kernel_rfl) (by kernel_rfl) (fun _ _ _ h => h) (Or.inl ⟨by rfl, ?yz30a⟩) hHeld ?rz30a
          case yz30a => (intro w' hSw; go_simp; try with_reducible rfl)
          simp only [Act.put, List.getElem_toArray, List.getElem_cons_succ, List.getElem_cons_zero, List.setIfInBounds_toArray, List.set_cons_zero, List.set_cons_succ]
          refine wpAnyH_take (i := 31) (v := ?vz31a) rfl (by kernel_rfl) (by kernel_rfl) (by kernel_rfl) (fun _ _ _ h => h) (Or.inl ⟨by rfl, ?yz31a⟩) hHeld ?rz31a
          case yz31a => (intro w' hSw; go_simp; try with_reducible rfl)
          simp only [Act.put, List.getElem_toArray, List.getElem_cons_succ, List.getElem_cons_zero, List.setIfInBounds_toArray, List.set_cons_zero, List.set_cons_succ]
          refine wpAnyH_take (i := 32) (v := ?vz32a) rfl (by kernel_rfl) (by kernel_rfl) (by kernel_rfl) (fun _ _ _ h => h) (Or.inl ⟨by rfl, ?yz32a⟩) hHeld ?rz32a
          case yz32a => (intro w' hSw; go_simp; try with_reducible rfl)
          simp only [Act.put, List.getElem_toArray, List.getElem_cons_succ, List.getElem_cons_zero, List.setIfInBounds_toArray, List.set_cons_zero, List.set_cons_succ]
          refine wpAnyH_take (i := 33) (v := ?vz33a) rfl (by kernel_rfl) (by kernel_rfl) (by kernel_rfl) (fun _ _ _ h => h) (Or.inl ⟨by rfl, ?yz33a⟩) hHeld ?rz33a
          case yz33a => (intro w' hSw; go_simp; try with_reducible rfl)
          simp only [Act.put, List.getElem_toArray, List.getElem_cons_succ, List.getElem_cons_zero, List.setIfInBounds_toArray, List.set_cons_zero, List.set_cons_succ]
          refine wpAnyH_ready (rs := [34]) (by kernel_rfl) (by simp) ?_
          refine AllReadyH.cons rfl (fun KR hK => ?_) AllReadyH.nil
          go_simp
          refine (end_nil _).mono ?_
          rintro r wz ⟨rfl, hwz⟩
          rw [hwz]
          clear hwz wz
          dsimp only
          refine hK.out _ _ hHeld (fun hHeld => ?_)
          clear hK KR
          try simp only [Act.put, List.getElem_toArray, List.getElem_cons_succ, List.getElem_cons_zero, List.setIfInBounds_toArray, List.set_cons_zero, List.set_cons_succ]
          refine wpAnyH_take (i := 35) (v := ?vz35a) rfl (by kernel_rfl) (by kernel_rfl) (by kernel_rfl) (fun _ _ _ h => h) (Or.inl ⟨by rfl, ?yz35a⟩) hHeld ?rz35a
          case yz35a => (intro w' hSw; go_simp; try with_reducible rfl)
          simp only [Act.put, List.getElem_toArray, List.getElem_cons_succ, List.getElem_cons_zero, List.setIfInBounds_toArray, List.set_cons_zero, List.set_cons_succ]
          refine wpAnyH_take (i := 36) (v := ?vz36a) rfl (by kernel_rfl) (by kernel_rfl) (by kernel_rfl) (fun _ _ _ h => h) (Or.inl ⟨by rfl, ?yz36a⟩) hHeld ?rz36a
          case yz36a => (intro w' hSw; go_simp; try with_reducible rfl)
          simp only [Act.put, List.getElem_toArray, List.getElem_cons_succ, List.getElem_cons_zero, List.setIfInBounds_toArray, List.set_cons_zero, List.set_cons_succ]
          refine wpAnyH_take (i := 37) (v := ?vz37a) rfl (by kernel_rfl) (by kernel_rfl) (by kernel_rfl) (fun _ _ _ h => h) (Or.inl ⟨by rfl, ?yz37a⟩) hHeld ?rz37a
          case yz37a => (intro w' hSw; go_simp; try with_reducible rfl)
          simp only [Act.put, List.getElem_toArray, List.getElem_cons_succ, List.getElem_cons_zero, List.setIfInBounds_toArray, List.set_cons_zero, List.set_cons_succ]
          refine wpAnyH_take (i := 38) (v := ?vz38a) rfl (by kernel_rfl) (by kernel_rfl) (by kernel_rfl) (fun _ _ _ h => h) (Or.inl ⟨by rfl, ?yz38a⟩) hHeld ?rz38a
          case yz38a => (intro w' hSw; go_simp; try with_reducible rfl)
          simp only [Act.put, List.getElem_toArray, List.getElem_cons_succ, List.getElem_cons_zero, List.setIfInBounds_toArray, List.set_cons_zero, List.set_cons_succ]
          refine wpAnyH_take (i := 39) (v := ?vz39a) rfl (by kernel_rfl) (by kernel_rfl) (by kernel_rfl) (fun _ _ _ h => h) (Or.inl ⟨by rfl, ?yz39a⟩) hHeld ?rz39a
          case yz39a => (intro w' hSw; obtain ⟨c0, c1, c2, c3, c4, d0, d1, d2, d3, d4, d5, d6, d7⟩ := HG.out w' (HK11.out.trans hSw); go_simp; try with_reducible rfl)
          simp only [Act.put, List.getElem_toArray, List.getElem_cons_succ, List.getElem_cons_zero, List.setIfInBounds_toArray, List.set_cons_zero, List.set_cons_succ]
          refine wpAnyH_ready (rs := [40]) (by kernel_rfl) (by simp) ?_
          refine AllReadyH.cons rfl (fun KR hK => ?_) AllReadyH.nil
          go_simp
          refine (int_nil K Bl le bi A n c _).mono ?_
          rintro r x22 ⟨rfl, hk⟩
          dsimp only
          refine hK.out _ _ (hHeld.trans hk) (fun hHeld => ?_)
          clear hK KR hk
          try simp only [Act.put, List.getElem_toArray, List.getElem_cons_succ, List.getElem_cons_zero, List.setIfInBounds_toArray, List.set_cons_zero, List.set_cons_succ]
          refine wpAnyH_take (i := 41) (v := ?vz41a) rfl (by kernel_rfl) (by kernel_rfl) (by kernel_rfl) (fun _ _ _ h => h) (Or.inl ⟨by rfl, ?yz41a⟩) hHeld ?rz41a
          case yz41a => (intro w' hSw; go_simp; try with_reducible rfl)
          simp only [Act.put, List.getElem_toArray, List.getElem_cons_succ, List.getElem_cons_zero, List.setIfInBounds_toArray, List.set_cons_zero, List.set_cons_succ]
          refine wpAnyH_take (i := 42) (v := ?vz42a) rfl (by kernel_rfl) (by kernel_rfl) (by kernel_rfl) (fun _ _ _ h => h) (Or.inl ⟨by rfl, ?yz42a⟩) hHeld ?rz42a
          case yz42a => (intro w' hSw; go_simp; try with_reducible rfl)
          simp only [Act.put, List.getElem_toArray, List.getElem_cons_succ, List.getElem_cons_zero, List.setIfInBounds_toArray, List.set_cons_zero, List.set_cons_succ]
          refine wpAnyH_take (i := 43) (v := ?vz43a) rfl (by kernel_rfl) (by kernel_rfl) (by kernel_rfl) (fun _ _ _ h => h) (Or.inl ⟨by rfl, ?yz43a⟩) hHeld ?rz43a
          case yz43a => (intro w' hSw; go_simp; try with_reducible rfl)
          simp only [Act.put, List.getElem_toArray, List.getElem_cons_succ, List.getElem_cons_zero, List.setIfInBounds_toArray, List.set_cons_zero, List.set_cons_succ]
          refine wpAnyH_take (i := 44) (v := ?vz44a) rfl (by kernel_rfl) (by kernel_rfl) (by kernel_rfl) (fun _ _ _ h => h) (Or.inl ⟨by rfl, ?yz44a⟩) hHeld ?rz44a
          case yz44a => (intro w' hSw; go_simp; try with_reducible rfl)
          simp only [Act.put, List.getElem_toArray, List.getElem_cons_succ, List.getElem_cons_zero, List.setIfInBounds_toArray, List.set_cons_zero, List.set_cons_succ]
          refine wpAnyH_take (i := 45) (v := ?vz45a) rfl (by kernel_rfl) (by kernel_rfl) (by kernel_rfl) (fun _ _ _ h => h) (Or.inl ⟨by rfl, ?yz45a⟩) hHeld ?rz45a
          case yz45a => (intro w' hSw; obtain ⟨c0, c1, c2, c3, c4, d0, d1, d2, d3, d4, d5, d6, d7⟩ := HG.out w' (HK11.out.trans hSw); go_simp; try with_reducible rfl)
          simp only [Act.put, List.getElem_toArray, List.getElem_cons_succ, List.getElem_cons_zero, List.setIfInBounds_toArray, List.set_cons_zero, List.set_cons_succ]
          refine wpAnyH_ready (rs := [46]) (by kernel_rfl) (by simp) ?_
          refine AllReadyH.cons rfl (fun KR hK => ?_) AllReadyH.nil
          go_simp
          refine (array_nil _ _).mono ?_
          rintro r x23 ⟨rfl, hk⟩
          dsimp only
          refine hK.out _ _ (hHeld.trans hk) (fun hHeld => ?_)
          clear hK KR hk
          try simp only [Act.put, List.getElem_toArray, List.getElem_cons_succ, List.getElem_cons_zero, List.setIfInBounds_toArray, List.set_cons_zero, List.set_cons_succ]
          refine wpAnyH_take (i := 47) (v := ?vz47a) rfl (by kernel_rfl) (by kernel_rfl) (by kernel_rfl) (fun _ _ _ h => h) (Or.inl ⟨by rfl, ?yz47a⟩) hHeld ?rz47a
          case yz47a => (intro w' hSw; go_simp; try with_reducible rfl)
          simp only [Act.put, List.getElem_toArray, List.getElem_cons_succ, List.getElem_cons_zero, List.setIfInBounds_toArray, List.set_cons_zero, List.set_cons_succ]
          refine wpAnyH_take (i := 48) (v := ?vz48a) rfl (by kernel_rfl) (by kernel_rfl) (by kernel_rfl) (fun _ _ _ h => h) (Or.inl ⟨by rfl, ?yz48a⟩) hHeld ?rz48a
          case yz48a => (intro w' hSw; go_simp; try with_reducible rfl)
          simp only [Act.put, List.getElem_toArray, List.getElem_cons_succ, List.getElem_cons_zero, List.setIfInBounds_toArray, List.set_cons_zero, List.set_cons_succ]
          refine wpAnyH_take (i := 49) (v := ?vz49a) rfl (by kernel_rfl) (by kernel_rfl) (by kernel_rfl) (fun _ _ _ h => h) (Or.inl ⟨by rfl, ?yz49a⟩) hHeld ?rz49a
          case yz49a => (intro w' hSw; go_simp; try with_reducible rfl)
          simp only [Act.put, List.getElem_toArray, List.getElem_cons_succ, List.getElem_cons_zero, List.setIfInBounds_toArray, List.set_cons_zero, List.set_cons_succ]
          refine wpAnyH_take (i := 50) (v := ?vz50a) rfl (by kernel_rfl) (by kernel_rfl) (by kernel_rfl) (fun _ _ _ h => h) (Or.inl ⟨by rfl, ?yz50a⟩) hHeld ?rz50a
          case yz50a => (intro w' hSw; go_simp; try with_reducible rfl)
          simp only [Act.put, List.getElem_toArray, List.getElem_cons_succ, List.getElem_cons_zero, List.setIfInBounds_toArray, List.set_cons_zero, List.set_cons_succ]
          refine wpAnyH_take (i := 51) (v := ?vz51a) rfl (by kernel_rfl) (by kernel_rfl) (by kernel_rfl) (fun _ _ _ h => h) (Or.inl ⟨by rfl, ?yz51a⟩) hHeld ?rz51a
          case yz51a => (intro w' hSw; go_simp; try with_reducible rfl)
          simp only [Act.put, List.getElem_toArray, List.getElem_cons_succ, List.getElem_cons_zero, List.setIfInBounds_toArray, List.set_cons_zero, List.set_cons_succ]
          refine wpAnyH_take (i := 52) (v := ?vz52a) rfl (by kernel_rfl) (by kernel_rfl) (by kernel_rfl) (fun _ _ _ h => h) (Or.inl ⟨by rfl, ?yz52a⟩) hHeld ?rz52a
          case yz52a => (intro w' hSw; obtain ⟨c0, c1, c2, c3, c4, d0, d1, d2, d3, d4, d5, d6, d7⟩ := HG.out w' (HK11.out.trans hSw); go_simp; try with_reducible rfl)
          simp only [Act.put, List.getElem_toArray, List.getElem_cons_succ, List.getElem_cons_zero, List.setIfInBounds_toArray, List.set_cons_zero, List.set_cons_succ]
          refine wpAnyH_ready (rs := [53]) (by kernel_rfl) (by simp) ?_
          refine AllReadyH.cons rfl (fun KR hK => ?_) AllReadyH.nil
          go_simp
          refine (within_nil _ 1 2 _).mono ?_
          rintro r x24 ⟨rfl, hk⟩
          dsimp only
          refine hK.out _ _ (hHeld.trans hk) (fun hHeld => ?_)
          clear hK KR hk
          try simp only [Act.put, List.getElem_toArray, List.getElem_cons_succ, List.getElem_cons_zero, List.setIfInBounds_toArray, List.set_cons_zero, List.set_cons_succ]
          refine wpAnyH_take (i := 54) (v := ?vz54a) rfl (by kernel_rfl) (by kernel_rfl) (by kernel_rfl) (fun _ _ _ h => h) (Or.inl ⟨by rfl, ?yz54a⟩) hHeld ?rz54a
          case yz54a => (intro w' hSw; go_simp; try with_reducible rfl)
          simp only [Act.put, List.getElem_toArray, List.getElem_cons_succ, List.getElem_cons_zero, List.setIfInBounds_toArray, List.set_cons_zero, List.set_cons_succ]
          refine wpAnyH_take (i := 55) (v := ?vz55a) rfl (by kernel_rfl) (by kernel_rfl) (by kernel_rfl) (fun _ _ _ h => h) (Or.inl ⟨by rfl, ?yz55a⟩) hHeld ?rz55a
          case yz55a => (intro w' hSw; go_simp; try with_reducible rfl)
          simp only [Act.put, List.getElem_toArray, List.getElem_cons_succ, List.getElem_cons_zero, List.setIfInBounds_toArray, List.set_cons_zero, List.set_cons_succ]
          refine wpAnyH_take (i := 56) (v := ?vz56a) rfl (by kernel_rfl) (by kernel_rfl) (by kernel_rfl) (fun _ _ _ h => h) (Or.inl ⟨by rfl, ?yz56a⟩) hHeld ?rz56a
          case yz56a => (intro w' hSw; go_simp; try with_reducible rfl)
          simp only [Act.put, List.getElem_toArray, List.getElem_cons_succ, List.getElem_cons_zero, List.setIfInBounds_toArray, List.set_cons_zero, List.set_cons_succ]
          have HKF := Lib.hid hHeld
          refine wpAnyH_done (by kernel_rfl) ?_ _
          clear hHeld
          refine NoPanic.normal ?_
          go_wp2
          go_ret
          exact ⟨by simp, HKW.out.trans (HK11.out.trans HKF.out)⟩
end Go.Proofs.YtgaofnmgdefdcaaGreatDoor.Le
