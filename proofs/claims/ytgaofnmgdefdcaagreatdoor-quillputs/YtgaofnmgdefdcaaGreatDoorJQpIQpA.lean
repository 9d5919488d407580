/- The statements' own model of a series (QuillPuts): a number is put. No conditions beyond these. -/
/- The statements' own model of a series (QuillPuts): bytes are put. No conditions beyond these. -/
import Derived.Test.YtgaofnmgdefdcaaGreatDoorJQlInQpM
import Derived.Deep.RegionHeld3

namespace Go.Proofs.YtgaofnmgdefdcaaGreatDoor.Qm
open Go.RowKit Go.Proofs.YtgaofnmgdefdcaaGreatDoor.Gen Go.Proofs.YtgaofnmgdefdcaaGreatDoor.Hu Go.Proofs.YtgaofnmgdefdcaaGreatDoor.Mp Go.Proofs.YtgaofnmgdefdcaaGreatDoor.Cm Go.Proofs.YtgaofnmgdefdcaaGreatDoor.Hr Go.Proofs.YtgaofnmgdefdcaaGreatDoor.Hn Go.Proofs.YtgaofnmgdefdcaaGreatDoor.Hk Go.Proofs.YtgaofnmgdefdcaaGreatDoor.Ln Go.Proofs.YtgaofnmgdefdcaaGreatDoor.Ds Go.Proofs.YtgaofnmgdefdcaaGreatDoor.Ky Go.Proofs.YtgaofnmgdefdcaaGreatDoor.Wr Go.Proofs.YtgaofnmgdefdcaaGreatDoor.Ib Go.Proofs.YtgaofnmgdefdcaaGreatDoor.Bp Go.Proofs.YtgaofnmgdefdcaaGreatDoor.Qh Go.Proofs.YtgaofnmgdefdcaaGreatDoor.Qs Go.Proofs.YtgaofnmgdefdcaaGreatDoor.It Go.Proofs.YtgaofnmgdefdcaaGreatDoor.Qi Go.Proofs.YtgaofnmgdefdcaaGreatDoor.Qu Go.Proofs.YtgaofnmgdefdcaaGreatDoor.Qn Go.Proofs.YtgaofnmgdefdcaaGreatDoor.Bq

/-- What a deed of the model leaves. -/
def Left (o : Nat → Option Nat) (base g mb : Nat) (p : St) (w w' : World) : Prop :=
  ∃ o' Ar cr fa fc, Md o' base g mb Ar cr fa fc p w' ∧ Keeps (fun k => o k ≠ none) w w' ∧ ∀ k, o' k ≠ none → o k ≠ none ∨ w.heap.size ≤ k
section
variable {o : Nat → Option Nat} {base g mb cr : Nat} {Ar : Option Addr} {fa : Nat → Option Addr} {fc : Nat → Nat} {p : St}
theorem mint_bad (w : World) (h : Md o base g mb Ar cr fa fc p w) (cs : Array Value) (x : Int) (hx : x < -2147483647 ∨ 2147483647 < x) :
    Calls Tryz.prog 16 #[.pointer (some ⟨g, 0, none⟩), .agg cs, .int .i64 x] w fun r w' => r = .returned (.int .i64 2) ∧ Keeps (fun _ => False) w w' := by
  have HK := Lib.hid ((Keeps.refl (fun _ => False) w).alloc (.cells cs 43))
  clear h
  go_enter Tryz.func16, Tryz.ntmps16
  rcases hx with hx | hx
  · go_wp2
    go_ret
    exact ⟨rfl, HK.out⟩
  · have h2 : ¬ x < -2147483647 := by omega
    go_wp2
    go_ret
    exact ⟨rfl, HK.out⟩
set_option maxHeartbeats 16000000 in
set_option maxRecDepth 100000 in
theorem mint_out (w : World) (h : Md o base g mb Ar cr fa fc p w) (A : Option Addr) (n c Bn : Nat) (le bi x : Int) (hB : 1 ≤ Bn ∧ Bn ≤ 60000) (hx : ¬ (x < -2147483647 ∨ 2147483647 < x)) (hlen : (hadP p.2 Bn).length ≤ 100000) :
    Calls Tryz.prog 16 #[.pointer (some ⟨g, 0, none⟩), .agg #[.int .u8 1, .int .i64 Bn, .slice A n c, .int .i64 le, .int .i64 bi], .int .i64 x] w fun r w' => r = .returned (.int .i64 0) ∧ Left o base g mb (p.1, pc p.2 Bn (hadP p.2 Bn ++ encInt (sg x))) w w' := by
  obtain ⟨A0, c0, hoh, hlb, hlk⟩ := h.had Bn
  obtain ⟨W0, hW0⟩ : ∃ W0, W0 = w.alloc (.cells #[.int .u8 1, .int .i64 Bn, .slice A n c, .int .i64 le, .int .i64 bi] 43) := ⟨_, rfl⟩
  obtain ⟨gd, hgd⟩ : ∃ x, x = w.heap.size := ⟨_, rfl⟩
  have HKW : Hid (Keeps (fun _ => False) w W0) := by show Keeps _ _ _; rw [hW0]; exact (Keeps.refl _ _).alloc _
  have HD : Hid (Blk W0 gd 43 #[.int .u8 1, .int .i64 Bn, .slice A n c, .int .i64 le, .int .i64 bi]) := by show Blk _ _ _ _; rw [hW0, hgd]; exact Blk.new _ _ _
  have HM0 := Lib.hid h
  have HM := Lib.hid (h.more HKW.out)
  have HNG : Hid (∀ k x, o k = some x → x ≠ 0 → ¬ k = g ∧ ¬ k = gd) := fun k y hy h0 => ⟨fun e => by rw [e, h.og] at hy; injection hy with hy; exact h0 hy.symm, fun e => by have := (h.lt k y hy).2; omega⟩
  have HBN : Hid (Bn < 60001) := by show Bn < 60001; omega
  have HLK : Hid (∀ W, Keeps (fun _ => False) w W → (Instr.lookup 28 (.map (some mb)) (.int .i64 (Bn : Int)) false).run Tryz.prog W = .ok (.slice A0 (hadP p.2 Bn).length c0) W) := fun W k => hlk HBN.out W (k.mono fun _ _ hf => hf.elim)
  have HOH := Lib.hid hoh
  have HLB := Lib.hid hlb
  obtain ⟨m, hm⟩ : ∃ m, (encInt (x % 4294967296)).length = m := ⟨_, rfl⟩
  have HSM := Lib.hid hm
  have HSM2 : Hid ((encInt (sg x)).length = m) := hm
  have HLN : Hid ((hadP p.2 Bn).length + m ≤ 1000000) := by
    have := (encInt_len (sg x)).2
    rw [HSM2.out] at this
    show _ ≤ _
    omega
  obtain ⟨h0, hh0⟩ : ∃ n, (hadP p.2 Bn).length = n := ⟨_, rfl⟩
  have HLH := Lib.hid hh0
  rw [hh0] at HLK HOH HLB HLN
  have HBS : Hid (base ≤ w.heap.size) := by show base ≤ _; have := h.lt g 0 h.og; omega
  have hx1 : ¬ x < -2147483647 := by omega
  have hx2 : ¬ 2147483647 < x := by omega
  have k0 : W0.cell? ⟨gd, 0, none⟩ = some (.int .u8 1) := HD.out.cell 0
  clear h hoh hlb hlk hm hh0 hlen hB hx
  go_enter Tryz.func16, Tryz.ntmps16
  go_upto_region 1 with fail
  rw [← hW0, ← hgd]
  clear hW0 hgd
  go_upto_region 8 with fail
  refine wp_region_noPanic ?_
  refine wp_region_held_drew (S := fun w' => Keeps (fun k => ¬ k = g ∧ ¬ k = gd) W0 w') (by kernel_rfl) (((Keeps.refl (fun _ => False) _).drewN 1).mono fun _ _ hf => hf.elim) (fun hHeld => ?_)
  have HKD : Hid (Keeps (fun _ => False) W0 W0.drew) := (Keeps.refl _ _).drewN 1
  have hHeld2 : Keeps (fun k => ¬ k = g ∧ ¬ k = gd) W0 W0.drew := hHeld
  clear hHeld
  generalize W0.drew = wd at hHeld2 HKD ⊢
  have hHeld := hHeld2
  clear hHeld2
  have HKC := Lib.hid (HKW.out.trans HKD.out)
  clear HKD
  refine wpAnyH_take (i := 0) (v := ?vz0x1) rfl (by kernel_rfl) (by kernel_rfl) (by kernel_rfl) (fun _ _ _ h => h) (Or.inl ⟨by rfl, ?yz0x1⟩) hHeld ?rz0x1
  case yz0x1 => (intro w' hSw; go_simp; try with_reducible rfl)
  simp only [Act.put, List.getElem_toArray, List.getElem_cons_succ, List.getElem_cons_zero, List.setIfInBounds_toArray, List.set_cons_zero, List.set_cons_succ]
  refine wpAnyH_take (i := 1) (v := ?vz1x2) rfl (by kernel_rfl) (by kernel_rfl) (by kernel_rfl) (fun _ _ _ h => h) (Or.inl ⟨by rfl, ?yz1x2⟩) hHeld ?rz1x2
  case yz1x2 => (intro w' hSw; go_simp; try with_reducible rfl)
  simp only [Act.put, List.getElem_toArray, List.getElem_cons_succ, List.getElem_cons_zero, List.setIfInBounds_toArray, List.set_cons_zero, List.set_cons_succ]
  refine wpAnyH_take (i := 2) (v := ?vz2x3) rfl (by kernel_rfl) (by kernel_rfl) (by kernel_rfl) (fun _ _ _ h => h) (Or.inl ⟨by rfl, ?yz2x3⟩) hHeld ?rz2x3
  case yz2x3 => (intro w' hSw; go_simp; try with_reducible rfl)
  simp only [Act.put, List.getElem_toArray, List.getElem_cons_succ, List.getElem_cons_zero, List.setIfInBounds_toArray, List.set_cons_zero, List.set_cons_succ]
  refine wpAnyH_take (i := 3) (v := ?vz3x4) rfl (by kernel_rfl) (by kernel_rfl) (by kernel_rfl) (fun _ _ _ h => h) (Or.inl ⟨by rfl, ?yz3x4⟩) hHeld ?rz3x4
  case yz3x4 => (intro w' hSw; have hc1 := (HM.out.blk.keeps hSw (fun h => h.1 rfl)).cell 1; go_simp; try with_reducible rfl)
  simp only [Act.put, List.getElem_toArray, List.getElem_cons_succ, List.getElem_cons_zero, List.setIfInBounds_toArray, List.set_cons_zero, List.set_cons_succ]
  refine wpAnyH_take (i := 4) (v := ?vz4x5) rfl (by kernel_rfl) (by kernel_rfl) (by kernel_rfl) (fun _ _ _ h => h) (Or.inl ⟨by rfl, ?yz4x5⟩) hHeld ?rz4x5
  case yz4x5 => (intro w' hSw; go_simp; try with_reducible rfl)
  simp only [Act.put, List.getElem_toArray, List.getElem_cons_succ, List.getElem_cons_zero, List.setIfInBounds_toArray, List.set_cons_zero, List.set_cons_succ]
  refine wpAnyH_take (i := 5) (v := ?vz5x6) rfl (by kernel_rfl) (by kernel_rfl) (by kernel_rfl) (fun _ _ _ h => h) (Or.inl ⟨by rfl, ?yz5x6⟩) hHeld ?rz5x6
  case yz5x6 => (intro w' hSw; have hd1 := (HD.out.keeps hSw (fun h => h.2 rfl)).cell 1; go_simp; try with_reducible rfl)
  simp only [Act.put, List.getElem_toArray, List.getElem_cons_succ, List.getElem_cons_zero, List.setIfInBounds_toArray, List.set_cons_zero, List.set_cons_succ]
  refine wpAnyH_take (i := 6) (v := ?vz6x7) rfl (by kernel_rfl) (by kernel_rfl) (by kernel_rfl) (fun _ _ _ h => h) (Or.inl ⟨by rfl, ?yz6x7⟩) hHeld ?rz6x7
  case yz6x7 => (intro w' hSw; go_simp; try with_reducible rfl)
  simp only [Act.put, List.getElem_toArray, List.getElem_cons_succ, List.getElem_cons_zero, List.setIfInBounds_toArray, List.set_cons_zero, List.set_cons_succ]
  refine wpAnyH_take (i := 7) (v := ?vz7x8) rfl (by kernel_rfl) (by kernel_rfl) (by kernel_rfl) (fun _ _ _ h => h) (Or.inl ⟨by rfl, ?yz7x8⟩) hHeld ?rz7x8
  case yz7x8 => (intro w' hSw; go_simp; try with_reducible rfl)
  simp only [Act.put, List.getElem_toArray, List.getElem_cons_succ, List.getElem_cons_zero, List.setIfInBounds_toArray, List.set_cons_zero, List.set_cons_succ]
  refine wpAnyH_take (i := 8) (v := ?vz8x9) rfl (by kernel_rfl) (by kernel_rfl) (by kernel_rfl) (fun _ _ _ h => h) (Or.inl ⟨by rfl, ?yz8x9⟩) hHeld ?rz8x9
  case yz8x9 => (intro w' hSw; go_simp; try with_reducible rfl)
  simp only [Act.put, List.getElem_toArray, List.getElem_cons_succ, List.getElem_cons_zero, List.setIfInBounds_toArray, List.set_cons_zero, List.set_cons_succ]
  refine wpAnyH_take (i := 9) (v := ?vz9x10) rfl (by kernel_rfl) (by kernel_rfl) (by kernel_rfl) (fun _ _ _ h => h) (Or.inl ⟨by rfl, ?yz9x10⟩) hHeld ?rz9x10
  case yz9x10 => (intro w' hSw; have hc1 := (HM.out.blk.keeps hSw (fun h => h.1 rfl)).cell 1; go_simp; try with_reducible rfl)
  simp only [Act.put, List.getElem_toArray, List.getElem_cons_succ, List.getElem_cons_zero, List.setIfInBounds_toArray, List.set_cons_zero, List.set_cons_succ]
  refine wpAnyH_take (i := 10) (v := ?vz10x11) rfl (by kernel_rfl) (by kernel_rfl) (by kernel_rfl) (fun _ _ _ h => h) (Or.inl ⟨by rfl, ?yz10x11⟩) hHeld ?rz10x11
  case yz10x11 => (intro w' hSw; go_simp; try with_reducible rfl)
  simp only [Act.put, List.getElem_toArray, List.getElem_cons_succ, List.getElem_cons_zero, List.setIfInBounds_toArray, List.set_cons_zero, List.set_cons_succ]
  refine wpAnyH_take (i := 11) (v := ?vz11x12) rfl (by kernel_rfl) (by kernel_rfl) (by kernel_rfl) (fun _ _ _ h => h) (Or.inl ⟨by rfl, ?yz11x12⟩) hHeld ?rz11x12
  case yz11x12 => (intro w' hSw; have hd1 := (HD.out.keeps hSw (fun h => h.2 rfl)).cell 1; go_simp; try with_reducible rfl)
  simp only [Act.put, List.getElem_toArray, List.getElem_cons_succ, List.getElem_cons_zero, List.setIfInBounds_toArray, List.set_cons_zero, List.set_cons_succ]
  refine wpAnyH_take (i := 13) (v := ?vz13x13) rfl (by kernel_rfl) (by kernel_rfl) (by kernel_rfl) (fun _ _ _ h => h) (Or.inl ⟨by rfl, ?yz13x13⟩) hHeld ?rz13x13
  case yz13x13 => (intro w' hSw; go_simp; try with_reducible rfl)
  simp only [Act.put, List.getElem_toArray, List.getElem_cons_succ, List.getElem_cons_zero, List.setIfInBounds_toArray, List.set_cons_zero, List.set_cons_succ]
  refine wpAnyH_ready (rs := [12, 14]) (by kernel_rfl) (by simp) ?_
  refine AllReadyH.cons rfl (fun KR hK => ?_) (AllReadyH.cons rfl (fun KR hK => ?_) AllReadyH.nil)
  · have hlk := HLK.out _ HKC.out
    go_simp
    try dsimp only
    refine hK.out _ _ hHeld (fun hHeld => ?_)
    clear hK KR
    try simp only [Act.put, List.getElem_toArray, List.getElem_cons_succ, List.getElem_cons_zero, List.setIfInBounds_toArray, List.set_cons_zero, List.set_cons_succ]
    refine wpAnyH_ready (rs := [14]) (by kernel_rfl) (by simp) ?_
    refine AllReadyH.cons rfl (fun KR hK => ?_) AllReadyH.nil
    go_simp
    refine (Rf.signed_n x m _ HSM.out).mono ?_
    rintro r wa ⟨As, cs, rfl, hos, hk⟩
    have HOS := Lib.hid hos
    replace HKC := Lib.hid (HKC.out.trans hk)
    clear hos
    try dsimp only
    refine hK.out _ _ (hHeld.trans (hk.mono fun _ _ hf => hf.elim)) (fun hHeld => ?_)
    clear hK KR
    try simp only [Act.put, List.getElem_toArray, List.getElem_cons_succ, List.getElem_cons_zero, List.setIfInBounds_toArray, List.set_cons_zero, List.set_cons_succ]
    clear hk
    refine wpAnyH_ready (rs := [15]) (by kernel_rfl) (by simp) ?_
    refine AllReadyH.cons rfl (fun KR hK => ?_) AllReadyH.nil
    refine Ap.step_app rfl (.tmp 61) (.tmp 63) rfl base _ m cs (.slice A0 h0 c0) (hadP p.2 Bn) (encInt (sg x)) As rfl (own_keeps HOH.out HKC.out fun _ _ => id) rfl (Lies.of_own HOS.out) HSM2.out (by have := HLN.out; omega) (Nat.le_trans HBS.out HKC.out.size) ?_
    intro v' w2 ho hg hat
    obtain ⟨A2, c2, rfl, _⟩ := own_form ho
    have HO2 := Lib.hid ho
    have HK2 := Lib.hid (Keeps.grown (HKC.out.mono (S' := fun k => o k = some (3 + Bn)) fun _ _ hf => hf.elim) hg (fun k hk => .inl (HLB.out k hk)))
    have HAT : Hid (∀ b, (Value.slice A2 (h0 + m) c2).ownBlock = some b → o b = some (3 + Bn) ∨ w.heap.size ≤ b) := fun b hb => by
      rcases hat with e | e
      · exact .inl (HLB.out b (e ▸ hb))
      · rw [e] at hb
        injection hb with hb
        exact .inr (by rw [← hb]; exact HKC.out.size)
    have hst : Keeps (fun k => ¬ k = g ∧ ¬ k = gd) _ w2 := Keeps.grown (Keeps.refl _ _) hg (fun k hk => .inl (HNG.out k (3 + Bn) (HLB.out k hk) (by omega)))
    clear ho hg hat
    try dsimp only
    refine hK.out _ _ (hHeld.trans hst) (fun hHeld => ?_)
    clear hK KR
    try simp only [Act.put, List.getElem_toArray, List.getElem_cons_succ, List.getElem_cons_zero, List.setIfInBounds_toArray, List.set_cons_zero, List.set_cons_succ]
    clear hst
    obtain ⟨w3, hrun, hmd, hk3, hk4⟩ := HM0.out.put HBN.out HK2.out HO2.out (by rw [List.length_append, HSM2.out, HLH.out]) HAT.out
    have HMD := Lib.hid hmd
    have HK3 := Lib.hid hk3
    clear hmd hk3
    refine wpAnyH_ready (rs := [16]) (by kernel_rfl) (by simp) ?_
    refine AllReadyH.cons rfl (fun KR hK => ?_) AllReadyH.nil
    go_simp
    try dsimp only
    refine hK.out _ _ (hHeld.trans (hk4.mono fun k _ e => by subst e; exact HNG.out _ 1 HM0.out.om (by omega))) (fun hHeld => ?_)
    clear hK KR hk4
    try simp only [Act.put, List.getElem_toArray, List.getElem_cons_succ, List.getElem_cons_zero, List.setIfInBounds_toArray, List.set_cons_zero, List.set_cons_succ]
    refine wpAnyH_done (by kernel_rfl) ?_ _
    clear hHeld
    refine NoPanic.normal ?_
    go_wp2
    go_ret
    exact ⟨rfl, _, _, _, _, _, HMD.out, HK3.out.mono (fun k _ e => by rcases e with e | e; (rw [e]; simp); (rw [e, HM0.out.om]; simp)), fun k hk => lab_sub HAT.out k hk⟩
  · go_simp
    refine (Rf.signed_n x m _ HSM.out).mono ?_
    rintro r wa ⟨As, cs, rfl, hos, hk⟩
    have HOS := Lib.hid hos
    replace HKC := Lib.hid (HKC.out.trans hk)
    clear hos
    try dsimp only
    refine hK.out _ _ (hHeld.trans (hk.mono fun _ _ hf => hf.elim)) (fun hHeld => ?_)
    clear hK KR
    try simp only [Act.put, List.getElem_toArray, List.getElem_cons_succ, List.getElem_cons_zero, List.setIfInBounds_toArray, List.set_cons_zero, List.set_cons_succ]
    clear hk
    refine wpAnyH_ready (rs := [12]) (by kernel_rfl) (by simp) ?_
    refine AllReadyH.cons rfl (fun KR hK => ?_) AllReadyH.nil
    have hlk := HLK.out _ HKC.out
    go_simp
    try dsimp only
    refine hK.out _ _ hHeld (fun hHeld => ?_)
    clear hK KR
    try simp only [Act.put, List.getElem_toArray, List.getElem_cons_succ, List.getElem_cons_zero, List.setIfInBounds_toArray, List.set_cons_zero, List.set_cons_succ]
    refine wpAnyH_ready (rs := [15]) (by kernel_rfl) (by simp) ?_
    refine AllReadyH.cons rfl (fun KR hK => ?_) AllReadyH.nil
    refine Ap.step_app rfl (.tmp 61) (.tmp 63) rfl base _ m cs (.slice A0 h0 c0) (hadP p.2 Bn) (encInt (sg x)) As rfl (own_keeps HOH.out HKC.out fun _ _ => id) rfl (Lies.of_own HOS.out) HSM2.out (by have := HLN.out; omega) (Nat.le_trans HBS.out HKC.out.size) ?_
    intro v' w2 ho hg hat
    obtain ⟨A2, c2, rfl, _⟩ := own_form ho
    have HO2 := Lib.hid ho
    have HK2 := Lib.hid (Keeps.grown (HKC.out.mono (S' := fun k => o k = some (3 + Bn)) fun _ _ hf => hf.elim) hg (fun k hk => .inl (HLB.out k hk)))
    have HAT : Hid (∀ b, (Value.slice A2 (h0 + m) c2).ownBlock = some b → o b = some (3 + Bn) ∨ w.heap.size ≤ b) := fun b hb => by
      rcases hat with e | e
      · exact .inl (HLB.out b (e ▸ hb))
      · rw [e] at hb
        injection hb with hb
        exact .inr (by rw [← hb]; exact HKC.out.size)
    have hst : Keeps (fun k => ¬ k = g ∧ ¬ k = gd) _ w2 := Keeps.grown (Keeps.refl _ _) hg (fun k hk => .inl (HNG.out k (3 + Bn) (HLB.out k hk) (by omega)))
    clear ho hg hat
    try dsimp only
    refine hK.out _ _ (hHeld.trans hst) (fun hHeld => ?_)
    clear hK KR
    try simp only [Act.put, List.getElem_toArray, List.getElem_cons_succ, List.getElem_cons_zero, List.setIfInBounds_toArray, List.set_cons_zero, List.set_cons_succ]
    clear hst
    obtain ⟨w3, hrun, hmd, hk3, hk4⟩ := HM0.out.put HBN.out HK2.out HO2.out (by rw [List.length_append, HSM2.out, HLH.out]) HAT.out
    have HMD := Lib.hid hmd
    have HK3 := Lib.hid hk3
    clear hmd hk3
    refine wpAnyH_ready (rs := [16]) (by kernel_rfl) (by simp) ?_
    refine AllReadyH.cons rfl (fun KR hK => ?_) AllReadyH.nil
    go_simp
    try dsimp only
    refine hK.out _ _ (hHeld.trans (hk4.mono fun k _ e => by subst e; exact HNG.out _ 1 HM0.out.om (by omega))) (fun hHeld => ?_)
    clear hK KR hk4
    try simp only [Act.put, List.getElem_toArray, List.getElem_cons_succ, List.getElem_cons_zero, List.setIfInBounds_toArray, List.set_cons_zero, List.set_cons_succ]
    refine wpAnyH_done (by kernel_rfl) ?_ _
    clear hHeld
    refine NoPanic.normal ?_
    go_wp2
    go_ret
    exact ⟨rfl, _, _, _, _, _, HMD.out, HK3.out.mono (fun k _ e => by rcases e with e | e; (rw [e]; simp); (rw [e, HM0.out.om]; simp)), fun k hk => lab_sub HAT.out k hk⟩
set_option maxHeartbeats 16000000 in
set_option maxRecDepth 100000 in
theorem mint_fix (w : World) (h : Md o base g mb Ar cr fa fc p w) (A : Option Addr) (n c b : Nat) (Bl le x : Int) (hle : -2147483647 ≤ le ∧ le ≤ 2147483647) (hb : b ≤ 31) (hx : ¬ (x < -2147483647 ∨ 2147483647 < x)) (hlen : p.1.length ≤ 100000) :
    Calls Tryz.prog 16 #[.pointer (some ⟨g, 0, none⟩), .agg #[.int .u8 6, .int .i64 Bl, .slice A n c, .int .i64 le, .int .i64 b], .int .i64 x] w fun r w' => (r = .returned (.int .i64 2) ∧ (x - le < 0 ∨ 2 ^ b ≤ x - le) ∧ Keeps (fun _ => False) w w') ∨ (r = .returned (.int .i64 0) ∧ ¬ (x - le < 0 ∨ 2 ^ b ≤ x - le) ∧ Left o base g mb (p.1 ++ tb (x - le).toNat b, p.2) w w') := by
  obtain ⟨W0, hW0⟩ : ∃ W0, W0 = w.alloc (.cells #[.int .u8 6, .int .i64 Bl, .slice A n c, .int .i64 le, .int .i64 b] 43) := ⟨_, rfl⟩
  obtain ⟨gd, hgd⟩ : ∃ x, x = w.heap.size := ⟨_, rfl⟩
  have HKW : Hid (Keeps (fun _ => False) w W0) := by show Keeps _ _ _; rw [hW0]; exact (Keeps.refl _ _).alloc _
  have HD : Hid (Blk W0 gd 43 #[.int .u8 6, .int .i64 Bl, .slice A n c, .int .i64 le, .int .i64 b]) := by show Blk _ _ _ _; rw [hW0, hgd]; exact Blk.new _ _ _
  have HM0 := Lib.hid h
  have HNG : Hid (∀ k x, o k = some x → ¬ k = gd) := fun k y hy e => by have := (h.lt k y hy).2; omega
  have HRC : Hid (∀ W, Keeps (fun _ => False) w W → W.cell? ⟨g, 0, none⟩ = some (.slice Ar p.1.length cr)) := fun W k => (HM0.out.blk.keeps k id).cell 0
  have HBS : Hid (base ≤ w.heap.size) := by show base ≤ _; have := h.lt g 0 h.og; omega
  have hx1 : ¬ x < -2147483647 := by omega
  have hx2 : ¬ 2147483647 < x := by omega
  have k0 : W0.cell? ⟨gd, 0, none⟩ = some (.int .u8 6) := HD.out.cell 0
  obtain ⟨y, hy⟩ : ∃ y, x - le = y := ⟨_, rfl⟩
  have HSB : Hid (IntKind.i64.wrap (x - le) = y) := by show _ = _; rw [hy]; exact IntWalk.i64_in _ (by omega)
  have hpp := Nat.two_pow_pos b
  have hpw := Nat.pow_le_pow_right (n := 2) (by decide) (show b ≤ 31 by omega)
  obtain ⟨Z, hZ⟩ : ∃ Z, (2 : Int) ^ b = Z := ⟨_, rfl⟩
  have hZ2 : Z = ((2 ^ b : Nat) : Int) := by rw [← hZ]; simp
  have HSH : Hid (IntKind.i64.wrap (2 ^ min b 64) = Z) := by
    show _ = _
    rw [show min b 64 = b by omega, hZ]
    exact IntWalk.i64_in _ (by omega)
  rw [hZ, hy]
  have HXY := Lib.hid hy
  have HYI : Hid (y < 4294967296 → 0 ≤ y → y < Z → y < 4294967296) := fun h _ _ => h
  have HZB : Hid (Z ≤ 2147483648) := by show Z ≤ _; omega
  have HLN : Hid (p.1.length + b ≤ 1000000) := by show _ ≤ _; omega
  have HB3 : Hid (b ≤ 32) := by show _ ≤ _; omega
  clear h hlen hb hZ hZ2 hpp hpw hy hle HYI
  go_enter Tryz.func16, Tryz.ntmps16
  go_upto_region 1 with fail
  rw [← hW0, ← hgd]
  clear hW0 hgd
  by_cases h1 : x < le
  · have HY1 : Hid (y < 0) := by show y < 0; have := HXY.out; omega
    go_upto_region 4 with fail
    refine wp_region_noPanic ?_
    refine wp_region_held_drew (S := fun w' => Keeps (fun k => ¬ k = g ∧ ¬ k = gd) W0 w') (by kernel_rfl) (((Keeps.refl (fun _ => False) _).drewN 1).mono fun _ _ hf => hf.elim) (fun hHeld => ?_)
    have HKD : Hid (Keeps (fun _ => False) W0 W0.drew) := (Keeps.refl _ _).drewN 1
    have hHeld2 : Keeps (fun k => ¬ k = g ∧ ¬ k = gd) W0 W0.drew := hHeld
    clear hHeld
    generalize W0.drew = wd at hHeld2 HKD ⊢
    have hHeld := hHeld2
    clear hHeld2
    refine wpAnyH_take (i := 0) (v := ?vz0x14) rfl (by kernel_rfl) (by kernel_rfl) (by kernel_rfl) (fun _ _ _ h => h) (Or.inl ⟨by rfl, ?yz0x14⟩) hHeld ?rz0x14
    case yz0x14 => (intro w' hSw; go_simp; try with_reducible rfl)
    simp only [Act.put, List.getElem_toArray, List.getElem_cons_succ, List.getElem_cons_zero, List.setIfInBounds_toArray, List.set_cons_zero, List.set_cons_succ]
    refine wpAnyH_take (i := 1) (v := ?vz1x15) rfl (by kernel_rfl) (by kernel_rfl) (by kernel_rfl) (fun _ _ _ h => h) (Or.inl ⟨by rfl, ?yz1x15⟩) hHeld ?rz1x15
    case yz1x15 => (intro w' hSw; go_simp; try with_reducible rfl)
    simp only [Act.put, List.getElem_toArray, List.getElem_cons_succ, List.getElem_cons_zero, List.setIfInBounds_toArray, List.set_cons_zero, List.set_cons_succ]
    refine wpAnyH_take (i := 2) (v := ?vz2x16) rfl (by kernel_rfl) (by kernel_rfl) (by kernel_rfl) (fun _ _ _ h => h) (Or.inl ⟨by rfl, ?yz2x16⟩) hHeld ?rz2x16
    case yz2x16 => (intro w' hSw; have hd3 := (HD.out.keeps hSw (fun h => h.2 rfl)).cell 3; go_simp; try with_reducible rfl)
    simp only [Act.put, List.getElem_toArray, List.getElem_cons_succ, List.getElem_cons_zero, List.setIfInBounds_toArray, List.set_cons_zero, List.set_cons_succ]
    refine wpAnyH_take (i := 3) (v := ?vz3x17) rfl (by kernel_rfl) (by kernel_rfl) (by kernel_rfl) (fun _ _ _ h => h) (Or.inl ⟨by rfl, ?yz3x17⟩) hHeld ?rz3x17
    case yz3x17 => (intro w' hSw; go_simp; try with_reducible rfl)
    simp only [Act.put, List.getElem_toArray, List.getElem_cons_succ, List.getElem_cons_zero, List.setIfInBounds_toArray, List.set_cons_zero, List.set_cons_succ]
    refine wpAnyH_take (i := 4) (v := ?vz4x18) rfl (by kernel_rfl) (by kernel_rfl) (by kernel_rfl) (fun _ _ _ h => h) (Or.inl ⟨by rfl, ?yz4x18⟩) hHeld ?rz4x18
    case yz4x18 => (intro w' hSw; go_simp; try with_reducible rfl)
    simp only [Act.put, List.getElem_toArray, List.getElem_cons_succ, List.getElem_cons_zero, List.setIfInBounds_toArray, List.set_cons_zero, List.set_cons_succ]
    refine wpAnyH_take (i := 5) (v := undef) rfl (by kernel_rfl) (by kernel_rfl) (by kernel_rfl) (fun _ _ _ h => h) (Or.inr ⟨by rfl, rfl⟩) hHeld ?_
    simp only [Act.put, List.getElem_toArray, List.getElem_cons_succ, List.getElem_cons_zero, List.setIfInBounds_toArray, List.set_cons_zero, List.set_cons_succ]
    refine wpAnyH_take (i := 6) (v := undef) rfl (by kernel_rfl) (by kernel_rfl) (by kernel_rfl) (fun _ _ _ h => h) (Or.inr ⟨by rfl, rfl⟩) hHeld ?_
    simp only [Act.put, List.getElem_toArray, List.getElem_cons_succ, List.getElem_cons_zero, List.setIfInBounds_toArray, List.set_cons_zero, List.set_cons_succ]
    refine wpAnyH_take (i := 7) (v := undef) rfl (by kernel_rfl) (by kernel_rfl) (by kernel_rfl) (fun _ _ _ h => h) (Or.inr ⟨by rfl, rfl⟩) hHeld ?_
    simp only [Act.put, List.getElem_toArray, List.getElem_cons_succ, List.getElem_cons_zero, List.setIfInBounds_toArray, List.set_cons_zero, List.set_cons_succ]
    refine wpAnyH_take (i := 8) (v := undef) rfl (by kernel_rfl) (by kernel_rfl) (by kernel_rfl) (fun _ _ _ h => h) (Or.inr ⟨by rfl, rfl⟩) hHeld ?_
    simp only [Act.put, List.getElem_toArray, List.getElem_cons_succ, List.getElem_cons_zero, List.setIfInBounds_toArray, List.set_cons_zero, List.set_cons_succ]
    refine wpAnyH_take (i := 9) (v := undef) rfl (by kernel_rfl) (by kernel_rfl) (by kernel_rfl) (fun _ _ _ h => h) (Or.inr ⟨by rfl, rfl⟩) hHeld ?_
    simp only [Act.put, List.getElem_toArray, List.getElem_cons_succ, List.getElem_cons_zero, List.setIfInBounds_toArray, List.set_cons_zero, List.set_cons_succ]
    refine wpAnyH_take (i := 10) (v := undef) rfl (by kernel_rfl) (by kernel_rfl) (by kernel_rfl) (fun _ _ _ h => h) (Or.inr ⟨by rfl, rfl⟩) hHeld ?_
    simp only [Act.put, List.getElem_toArray, List.getElem_cons_succ, List.getElem_cons_zero, List.setIfInBounds_toArray, List.set_cons_zero, List.set_cons_succ]
    refine wpAnyH_take (i := 11) (v := undef) rfl (by kernel_rfl) (by kernel_rfl) (by kernel_rfl) (fun _ _ _ h => h) (Or.inr ⟨by rfl, rfl⟩) hHeld ?_
    simp only [Act.put, List.getElem_toArray, List.getElem_cons_succ, List.getElem_cons_zero, List.setIfInBounds_toArray, List.set_cons_zero, List.set_cons_succ]
    refine wpAnyH_take (i := 12) (v := undef) rfl (by kernel_rfl) (by kernel_rfl) (by kernel_rfl) (fun _ _ _ h => h) (Or.inr ⟨by rfl, rfl⟩) hHeld ?_
    simp only [Act.put, List.getElem_toArray, List.getElem_cons_succ, List.getElem_cons_zero, List.setIfInBounds_toArray, List.set_cons_zero, List.set_cons_succ]
    refine wpAnyH_take (i := 13) (v := ?vz13x19) rfl (by kernel_rfl) (by kernel_rfl) (by kernel_rfl) (fun _ _ _ h => h) (Or.inl ⟨by rfl, ?yz13x19⟩) hHeld ?rz13x19
    case yz13x19 => (intro w' hSw; go_simp; try with_reducible rfl)
    simp only [Act.put, List.getElem_toArray, List.getElem_cons_succ, List.getElem_cons_zero, List.setIfInBounds_toArray, List.set_cons_zero, List.set_cons_succ]
    refine wpAnyH_done (by kernel_rfl) ?_ _
    clear hHeld
    refine NoPanic.normal ?_
    go_wp2
    go_ret
    exact .inl ⟨rfl, .inl HY1.out, HKW.out.trans HKD.out⟩
  · by_cases h2 : Z ≤ y
    · have HY2 := Lib.hid h2
      go_upto_region 4 with fail
      refine wp_region_noPanic ?_
      refine wp_region_held_drew (S := fun w' => Keeps (fun k => ¬ k = g ∧ ¬ k = gd) W0 w') (by kernel_rfl) (((Keeps.refl (fun _ => False) _).drewN 1).mono fun _ _ hf => hf.elim) (fun hHeld => ?_)
      have HKD : Hid (Keeps (fun _ => False) W0 W0.drew) := (Keeps.refl _ _).drewN 1
      have hHeld2 : Keeps (fun k => ¬ k = g ∧ ¬ k = gd) W0 W0.drew := hHeld
      clear hHeld
      generalize W0.drew = wd at hHeld2 HKD ⊢
      have hHeld := hHeld2
      clear hHeld2
      refine wpAnyH_take (i := 0) (v := ?vz0x20) rfl (by kernel_rfl) (by kernel_rfl) (by kernel_rfl) (fun _ _ _ h => h) (Or.inl ⟨by rfl, ?yz0x20⟩) hHeld ?rz0x20
      case yz0x20 => (intro w' hSw; go_simp; try with_reducible rfl)
      simp only [Act.put, List.getElem_toArray, List.getElem_cons_succ, List.getElem_cons_zero, List.setIfInBounds_toArray, List.set_cons_zero, List.set_cons_succ]
      refine wpAnyH_take (i := 1) (v := ?vz1x21) rfl (by kernel_rfl) (by kernel_rfl) (by kernel_rfl) (fun _ _ _ h => h) (Or.inl ⟨by rfl, ?yz1x21⟩) hHeld ?rz1x21
      case yz1x21 => (intro w' hSw; go_simp; try with_reducible rfl)
      simp only [Act.put, List.getElem_toArray, List.getElem_cons_succ, List.getElem_cons_zero, List.setIfInBounds_toArray, List.set_cons_zero, List.set_cons_succ]
      refine wpAnyH_take (i := 2) (v := ?vz2x22) rfl (by kernel_rfl) (by kernel_rfl) (by kernel_rfl) (fun _ _ _ h => h) (Or.inl ⟨by rfl, ?yz2x22⟩) hHeld ?rz2x22
      case yz2x22 => (intro w' hSw; have hd3 := (HD.out.keeps hSw (fun h => h.2 rfl)).cell 3; go_simp; try with_reducible rfl)
      simp only [Act.put, List.getElem_toArray, List.getElem_cons_succ, List.getElem_cons_zero, List.setIfInBounds_toArray, List.set_cons_zero, List.set_cons_succ]
      refine wpAnyH_take (i := 3) (v := ?vz3x23) rfl (by kernel_rfl) (by kernel_rfl) (by kernel_rfl) (fun _ _ _ h => h) (Or.inl ⟨by rfl, ?yz3x23⟩) hHeld ?rz3x23
      case yz3x23 => (intro w' hSw; go_simp; try with_reducible rfl)
      simp only [Act.put, List.getElem_toArray, List.getElem_cons_succ, List.getElem_cons_zero, List.setIfInBounds_toArray, List.set_cons_zero, List.set_cons_succ]
      refine wpAnyH_take (i := 4) (v := ?vz4x24) rfl (by kernel_rfl) (by kernel_rfl) (by kernel_rfl) (fun _ _ _ h => h) (Or.inl ⟨by rfl, ?yz4x24⟩) hHeld ?rz4x24
      case yz4x24 => (intro w' hSw; go_simp; try with_reducible rfl)
      simp only [Act.put, List.getElem_toArray, List.getElem_cons_succ, List.getElem_cons_zero, List.setIfInBounds_toArray, List.set_cons_zero, List.set_cons_succ]
      refine wpAnyH_take (i := 5) (v := ?vz5x25) rfl (by kernel_rfl) (by kernel_rfl) (by kernel_rfl) (fun _ _ _ h => h) (Or.inl ⟨by rfl, ?yz5x25⟩) hHeld ?rz5x25
      case yz5x25 => (intro w' hSw; go_simp; try with_reducible rfl)
      simp only [Act.put, List.getElem_toArray, List.getElem_cons_succ, List.getElem_cons_zero, List.setIfInBounds_toArray, List.set_cons_zero, List.set_cons_succ]
      refine wpAnyH_take (i := 6) (v := ?vz6x26) rfl (by kernel_rfl) (by kernel_rfl) (by kernel_rfl) (fun _ _ _ h => h) (Or.inl ⟨by rfl, ?yz6x26⟩) hHeld ?rz6x26
      case yz6x26 => (intro w' hSw; go_simp; try with_reducible rfl)
      simp only [Act.put, List.getElem_toArray, List.getElem_cons_succ, List.getElem_cons_zero, List.setIfInBounds_toArray, List.set_cons_zero, List.set_cons_succ]
      refine wpAnyH_take (i := 7) (v := ?vz7x27) rfl (by kernel_rfl) (by kernel_rfl) (by kernel_rfl) (fun _ _ _ h => h) (Or.inl ⟨by rfl, ?yz7x27⟩) hHeld ?rz7x27
      case yz7x27 => (intro w' hSw; have hd3 := (HD.out.keeps hSw (fun h => h.2 rfl)).cell 3; go_simp; try with_reducible rfl)
      simp only [Act.put, List.getElem_toArray, List.getElem_cons_succ, List.getElem_cons_zero, List.setIfInBounds_toArray, List.set_cons_zero, List.set_cons_succ]
      refine wpAnyH_take (i := 8) (v := .int .i64 y) rfl (by kernel_rfl) (by kernel_rfl) (by kernel_rfl) (fun _ _ _ h => h) (Or.inl ⟨by rfl, ?yz8x28⟩) hHeld ?rz8x28
      case yz8x28 => (intro w' hSw; have hsb := HSB.out; go_simp; first | done | exact hsb | simp [hsb])
      simp only [Act.put, List.getElem_toArray, List.getElem_cons_succ, List.getElem_cons_zero, List.setIfInBounds_toArray, List.set_cons_zero, List.set_cons_succ]
      refine wpAnyH_take (i := 9) (v := ?vz9x29) rfl (by kernel_rfl) (by kernel_rfl) (by kernel_rfl) (fun _ _ _ h => h) (Or.inl ⟨by rfl, ?yz9x29⟩) hHeld ?rz9x29
      case yz9x29 => (intro w' hSw; go_simp; try with_reducible rfl)
      simp only [Act.put, List.getElem_toArray, List.getElem_cons_succ, List.getElem_cons_zero, List.setIfInBounds_toArray, List.set_cons_zero, List.set_cons_succ]
      refine wpAnyH_take (i := 10) (v := ?vz10x30) rfl (by kernel_rfl) (by kernel_rfl) (by kernel_rfl) (fun _ _ _ h => h) (Or.inl ⟨by rfl, ?yz10x30⟩) hHeld ?rz10x30
      case yz10x30 => (intro w' hSw; have hd4 := (HD.out.keeps hSw (fun h => h.2 rfl)).cell 4; go_simp; try with_reducible rfl)
      simp only [Act.put, List.getElem_toArray, List.getElem_cons_succ, List.getElem_cons_zero, List.setIfInBounds_toArray, List.set_cons_zero, List.set_cons_succ]
      refine wpAnyH_take (i := 11) (v := .int .i64 Z) rfl (by kernel_rfl) (by kernel_rfl) (by kernel_rfl) (fun _ _ _ h => h) (Or.inl ⟨by rfl, ?yz11x31⟩) hHeld ?rz11x31
      case yz11x31 => (intro w' hSw; have hsh := HSH.out; go_simp; first | done | exact hsh | simp [hsh])
      simp only [Act.put, List.getElem_toArray, List.getElem_cons_succ, List.getElem_cons_zero, List.setIfInBounds_toArray, List.set_cons_zero, List.set_cons_succ]
      refine wpAnyH_take (i := 12) (v := ?vz12x32) rfl (by kernel_rfl) (by kernel_rfl) (by kernel_rfl) (fun _ _ _ h => h) (Or.inl ⟨by rfl, ?yz12x32⟩) hHeld ?rz12x32
      case yz12x32 => (intro w' hSw; go_simp; try with_reducible rfl)
      simp only [Act.put, List.getElem_toArray, List.getElem_cons_succ, List.getElem_cons_zero, List.setIfInBounds_toArray, List.set_cons_zero, List.set_cons_succ]
      refine wpAnyH_take (i := 13) (v := ?vz13x33) rfl (by kernel_rfl) (by kernel_rfl) (by kernel_rfl) (fun _ _ _ h => h) (Or.inl ⟨by rfl, ?yz13x33⟩) hHeld ?rz13x33
      case yz13x33 => (intro w' hSw; go_simp; try with_reducible rfl)
      simp only [Act.put, List.getElem_toArray, List.getElem_cons_succ, List.getElem_cons_zero, List.setIfInBounds_toArray, List.set_cons_zero, List.set_cons_succ]
      refine wpAnyH_done (by kernel_rfl) ?_ _
      clear hHeld
      refine NoPanic.normal ?_
      clear h1 h2
      go_wp2
      go_ret
      exact .inl ⟨rfl, .inr HY2.out, HKW.out.trans HKD.out⟩
    · obtain ⟨yn, hyn⟩ : ∃ yn : Nat, y = (yn : Int) := ⟨y.toNat, by have := HXY.out; omega⟩
      have HYN := Lib.hid hyn
      have HY : Hid (yn < 4294967296) := by show _ < _; have := HZB.out; omega
      have HSU : Hid (IntKind.u32.wrap y = (yn : Int)) := by show _ = _; rw [IntKind.wrap_u32]; have := HY.out; omega
      have HYT : Hid (y.toNat = yn) := by show _ = _; omega
      have HYC : Hid (¬ (y < 0 ∨ Z ≤ y)) := by show ¬ _; omega
      clear hyn
      go_upto_region 4 with fail
      refine wp_region_noPanic ?_
      refine wp_region_held_drew (S := fun w' => Keeps (fun k => ¬ k = g ∧ ¬ k = gd) W0 w') (by kernel_rfl) (((Keeps.refl (fun _ => False) _).drewN 1).mono fun _ _ hf => hf.elim) (fun hHeld => ?_)
      have HKD : Hid (Keeps (fun _ => False) W0 W0.drew) := (Keeps.refl _ _).drewN 1
      have hHeld2 : Keeps (fun k => ¬ k = g ∧ ¬ k = gd) W0 W0.drew := hHeld
      clear hHeld
      generalize W0.drew = wd at hHeld2 HKD ⊢
      have hHeld := hHeld2
      clear hHeld2
      refine wpAnyH_take (i := 0) (v := ?vz0x34) rfl (by kernel_rfl) (by kernel_rfl) (by kernel_rfl) (fun _ _ _ h => h) (Or.inl ⟨by rfl, ?yz0x34⟩) hHeld ?rz0x34
      case yz0x34 => (intro w' hSw; go_simp; try with_reducible rfl)
      simp only [Act.put, List.getElem_toArray, List.getElem_cons_succ, List.getElem_cons_zero, List.setIfInBounds_toArray, List.set_cons_zero, List.set_cons_succ]
      refine wpAnyH_take (i := 1) (v := ?vz1x35) rfl (by kernel_rfl) (by kernel_rfl) (by kernel_rfl) (fun _ _ _ h => h) (Or.inl ⟨by rfl, ?yz1x35⟩) hHeld ?rz1x35
      case yz1x35 => (intro w' hSw; go_simp; try with_reducible rfl)
      simp only [Act.put, List.getElem_toArray, List.getElem_cons_succ, List.getElem_cons_zero, List.setIfInBounds_toArray, List.set_cons_zero, List.set_cons_succ]
      refine wpAnyH_take (i := 2) (v := ?vz2x36) rfl (by kernel_rfl) (by kernel_rfl) (by kernel_rfl) (fun _ _ _ h => h) (Or.inl ⟨by rfl, ?yz2x36⟩) hHeld ?rz2x36
      case yz2x36 => (intro w' hSw; have hd3 := (HD.out.keeps hSw (fun h => h.2 rfl)).cell 3; go_simp; try with_reducible rfl)
      simp only [Act.put, List.getElem_toArray, List.getElem_cons_succ, List.getElem_cons_zero, List.setIfInBounds_toArray, List.set_cons_zero, List.set_cons_succ]
      refine wpAnyH_take (i := 3) (v := ?vz3x37) rfl (by kernel_rfl) (by kernel_rfl) (by kernel_rfl) (fun _ _ _ h => h) (Or.inl ⟨by rfl, ?yz3x37⟩) hHeld ?rz3x37
      case yz3x37 => (intro w' hSw; go_simp; try with_reducible rfl)
      simp only [Act.put, List.getElem_toArray, List.getElem_cons_succ, List.getElem_cons_zero, List.setIfInBounds_toArray, List.set_cons_zero, List.set_cons_succ]
      refine wpAnyH_take (i := 4) (v := ?vz4x38) rfl (by kernel_rfl) (by kernel_rfl) (by kernel_rfl) (fun _ _ _ h => h) (Or.inl ⟨by rfl, ?yz4x38⟩) hHeld ?rz4x38
      case yz4x38 => (intro w' hSw; go_simp; try with_reducible rfl)
      simp only [Act.put, List.getElem_toArray, List.getElem_cons_succ, List.getElem_cons_zero, List.setIfInBounds_toArray, List.set_cons_zero, List.set_cons_succ]
      refine wpAnyH_take (i := 5) (v := ?vz5x39) rfl (by kernel_rfl) (by kernel_rfl) (by kernel_rfl) (fun _ _ _ h => h) (Or.inl ⟨by rfl, ?yz5x39⟩) hHeld ?rz5x39
      case yz5x39 => (intro w' hSw; go_simp; try with_reducible rfl)
      simp only [Act.put, List.getElem_toArray, List.getElem_cons_succ, List.getElem_cons_zero, List.setIfInBounds_toArray, List.set_cons_zero, List.set_cons_succ]
      refine wpAnyH_take (i := 6) (v := ?vz6x40) rfl (by kernel_rfl) (by kernel_rfl) (by kernel_rfl) (fun _ _ _ h => h) (Or.inl ⟨by rfl, ?yz6x40⟩) hHeld ?rz6x40
      case yz6x40 => (intro w' hSw; go_simp; try with_reducible rfl)
      simp only [Act.put, List.getElem_toArray, List.getElem_cons_succ, List.getElem_cons_zero, List.setIfInBounds_toArray, List.set_cons_zero, List.set_cons_succ]
      refine wpAnyH_take (i := 7) (v := ?vz7x41) rfl (by kernel_rfl) (by kernel_rfl) (by kernel_rfl) (fun _ _ _ h => h) (Or.inl ⟨by rfl, ?yz7x41⟩) hHeld ?rz7x41
      case yz7x41 => (intro w' hSw; have hd3 := (HD.out.keeps hSw (fun h => h.2 rfl)).cell 3; go_simp; try with_reducible rfl)
      simp only [Act.put, List.getElem_toArray, List.getElem_cons_succ, List.getElem_cons_zero, List.setIfInBounds_toArray, List.set_cons_zero, List.set_cons_succ]
      refine wpAnyH_take (i := 8) (v := .int .i64 y) rfl (by kernel_rfl) (by kernel_rfl) (by kernel_rfl) (fun _ _ _ h => h) (Or.inl ⟨by rfl, ?yz8x42⟩) hHeld ?rz8x42
      case yz8x42 => (intro w' hSw; have hsb := HSB.out; go_simp; first | done | exact hsb | simp [hsb])
      simp only [Act.put, List.getElem_toArray, List.getElem_cons_succ, List.getElem_cons_zero, List.setIfInBounds_toArray, List.set_cons_zero, List.set_cons_succ]
      refine wpAnyH_take (i := 9) (v := ?vz9x43) rfl (by kernel_rfl) (by kernel_rfl) (by kernel_rfl) (fun _ _ _ h => h) (Or.inl ⟨by rfl, ?yz9x43⟩) hHeld ?rz9x43
      case yz9x43 => (intro w' hSw; go_simp; try with_reducible rfl)
      simp only [Act.put, List.getElem_toArray, List.getElem_cons_succ, List.getElem_cons_zero, List.setIfInBounds_toArray, List.set_cons_zero, List.set_cons_succ]
      refine wpAnyH_take (i := 10) (v := ?vz10x44) rfl (by kernel_rfl) (by kernel_rfl) (by kernel_rfl) (fun _ _ _ h => h) (Or.inl ⟨by rfl, ?yz10x44⟩) hHeld ?rz10x44
      case yz10x44 => (intro w' hSw; have hd4 := (HD.out.keeps hSw (fun h => h.2 rfl)).cell 4; go_simp; try with_reducible rfl)
      simp only [Act.put, List.getElem_toArray, List.getElem_cons_succ, List.getElem_cons_zero, List.setIfInBounds_toArray, List.set_cons_zero, List.set_cons_succ]
      refine wpAnyH_take (i := 11) (v := .int .i64 Z) rfl (by kernel_rfl) (by kernel_rfl) (by kernel_rfl) (fun _ _ _ h => h) (Or.inl ⟨by rfl, ?yz11x45⟩) hHeld ?rz11x45
      case yz11x45 => (intro w' hSw; have hsh := HSH.out; go_simp; first | done | exact hsh | simp [hsh])
      simp only [Act.put, List.getElem_toArray, List.getElem_cons_succ, List.getElem_cons_zero, List.setIfInBounds_toArray, List.set_cons_zero, List.set_cons_succ]
      refine wpAnyH_take (i := 12) (v := ?vz12x46) rfl (by kernel_rfl) (by kernel_rfl) (by kernel_rfl) (fun _ _ _ h => h) (Or.inl ⟨by rfl, ?yz12x46⟩) hHeld ?rz12x46
      case yz12x46 => (intro w' hSw; go_simp; try with_reducible rfl)
      simp only [Act.put, List.getElem_toArray, List.getElem_cons_succ, List.getElem_cons_zero, List.setIfInBounds_toArray, List.set_cons_zero, List.set_cons_succ]
      refine wpAnyH_take (i := 13) (v := ?vz13x47) rfl (by kernel_rfl) (by kernel_rfl) (by kernel_rfl) (fun _ _ _ h => h) (Or.inl ⟨by rfl, ?yz13x47⟩) hHeld ?rz13x47
      case yz13x47 => (intro w' hSw; go_simp; try with_reducible rfl)
      simp only [Act.put, List.getElem_toArray, List.getElem_cons_succ, List.getElem_cons_zero, List.setIfInBounds_toArray, List.set_cons_zero, List.set_cons_succ]
      refine wpAnyH_done (by kernel_rfl) ?_ _
      clear hHeld
      refine NoPanic.normal ?_
      have HD1 := Lib.hid (HD.out.keeps HKD.out id)
      have HKW1 := Lib.hid (HKW.out.trans HKD.out)
      clear HKD HKW HD
      generalize wd = W1 at HD1 HKW1 ⊢
      clear h1 h2
      go_upto_region 6 with fail
      refine wp_region_noPanic ?_
      refine wp_region_held_drew (S := fun w' => Keeps (fun k => ¬ k = gd) W1 w') (by kernel_rfl) (((Keeps.refl (fun _ => False) _).drewN 1).mono fun _ _ hf => hf.elim) (fun hHeld => ?_)
      have HKD : Hid (Keeps (fun _ => False) W1 W1.drew) := (Keeps.refl _ _).drewN 1
      have hHeld2 : Keeps (fun k => ¬ k = gd) W1 W1.drew := hHeld
      clear hHeld
      generalize W1.drew = wd at hHeld2 HKD ⊢
      have hHeld := hHeld2
      clear hHeld2
      have HKC := Lib.hid (HKW1.out.trans HKD.out)
      clear HKD
      refine wpAnyH_take (i := 0) (v := ?vz0x48) rfl (by kernel_rfl) (by kernel_rfl) (by kernel_rfl) (fun _ _ _ h => h) (Or.inl ⟨by rfl, ?yz0x48⟩) hHeld ?rz0x48
      case yz0x48 => (intro w' hSw; go_simp; try with_reducible rfl)
      simp only [Act.put, List.getElem_toArray, List.getElem_cons_succ, List.getElem_cons_zero, List.setIfInBounds_toArray, List.set_cons_zero, List.set_cons_succ]
      refine wpAnyH_take (i := 1) (v := ?vz1x49) rfl (by kernel_rfl) (by kernel_rfl) (by kernel_rfl) (fun _ _ _ h => h) (Or.inl ⟨by rfl, ?yz1x49⟩) hHeld ?rz1x49
      case yz1x49 => (intro w' hSw; go_simp; try with_reducible rfl)
      simp only [Act.put, List.getElem_toArray, List.getElem_cons_succ, List.getElem_cons_zero, List.setIfInBounds_toArray, List.set_cons_zero, List.set_cons_succ]
      refine wpAnyH_take (i := 2) (v := ?vz2x50) rfl (by kernel_rfl) (by kernel_rfl) (by kernel_rfl) (fun _ _ _ h => h) (Or.inl ⟨by rfl, ?yz2x50⟩) hHeld ?rz2x50
      case yz2x50 => (intro w' hSw; go_simp; try with_reducible rfl)
      simp only [Act.put, List.getElem_toArray, List.getElem_cons_succ, List.getElem_cons_zero, List.setIfInBounds_toArray, List.set_cons_zero, List.set_cons_succ]
      refine wpAnyH_take (i := 3) (v := ?vz3x51) rfl (by kernel_rfl) (by kernel_rfl) (by kernel_rfl) (fun _ _ _ h => h) (Or.inl ⟨by rfl, ?yz3x51⟩) hHeld ?rz3x51
      case yz3x51 => (intro w' hSw; go_simp; try with_reducible rfl)
      simp only [Act.put, List.getElem_toArray, List.getElem_cons_succ, List.getElem_cons_zero, List.setIfInBounds_toArray, List.set_cons_zero, List.set_cons_succ]
      refine wpAnyH_take (i := 5) (v := ?vz5x52) rfl (by kernel_rfl) (by kernel_rfl) (by kernel_rfl) (fun _ _ _ h => h) (Or.inl ⟨by rfl, ?yz5x52⟩) hHeld ?rz5x52
      case yz5x52 => (intro w' hSw; go_simp; try with_reducible rfl)
      simp only [Act.put, List.getElem_toArray, List.getElem_cons_succ, List.getElem_cons_zero, List.setIfInBounds_toArray, List.set_cons_zero, List.set_cons_succ]
      refine wpAnyH_take (i := 6) (v := ?vz6x53) rfl (by kernel_rfl) (by kernel_rfl) (by kernel_rfl) (fun _ _ _ h => h) (Or.inl ⟨by rfl, ?yz6x53⟩) hHeld ?rz6x53
      case yz6x53 => (intro w' hSw; go_simp; try with_reducible rfl)
      simp only [Act.put, List.getElem_toArray, List.getElem_cons_succ, List.getElem_cons_zero, List.setIfInBounds_toArray, List.set_cons_zero, List.set_cons_succ]
      refine wpAnyH_take (i := 7) (v := ?vz7x54) rfl (by kernel_rfl) (by kernel_rfl) (by kernel_rfl) (fun _ _ _ h => h) (Or.inl ⟨by rfl, ?yz7x54⟩) hHeld ?rz7x54
      case yz7x54 => (intro w' hSw; have hd3 := (HD1.out.keeps hSw (fun h => h rfl)).cell 3; go_simp; try with_reducible rfl)
      simp only [Act.put, List.getElem_toArray, List.getElem_cons_succ, List.getElem_cons_zero, List.setIfInBounds_toArray, List.set_cons_zero, List.set_cons_succ]
      refine wpAnyH_take (i := 8) (v := .int .i64 y) rfl (by kernel_rfl) (by kernel_rfl) (by kernel_rfl) (fun _ _ _ h => h) (Or.inl ⟨by rfl, ?yz8x55⟩) hHeld ?rz8x55
      case yz8x55 => (intro w' hSw; have hsb := HSB.out; go_simp; first | done | exact hsb | simp [hsb])
      simp only [Act.put, List.getElem_toArray, List.getElem_cons_succ, List.getElem_cons_zero, List.setIfInBounds_toArray, List.set_cons_zero, List.set_cons_succ]
      refine wpAnyH_take (i := 9) (v := .int .u32 (yn : Int)) rfl (by kernel_rfl) (by kernel_rfl) (by kernel_rfl) (fun _ _ _ h => h) (Or.inl ⟨by rfl, ?yz9x56⟩) hHeld ?rz9x56
      case yz9x56 => (intro w' hSw; have hsu := HSU.out; go_simp; first | done | exact hsu | simp [hsu])
      simp only [Act.put, List.getElem_toArray, List.getElem_cons_succ, List.getElem_cons_zero, List.setIfInBounds_toArray, List.set_cons_zero, List.set_cons_succ]
      refine wpAnyH_take (i := 10) (v := ?vz10x57) rfl (by kernel_rfl) (by kernel_rfl) (by kernel_rfl) (fun _ _ _ h => h) (Or.inl ⟨by rfl, ?yz10x57⟩) hHeld ?rz10x57
      case yz10x57 => (intro w' hSw; go_simp; try with_reducible rfl)
      simp only [Act.put, List.getElem_toArray, List.getElem_cons_succ, List.getElem_cons_zero, List.setIfInBounds_toArray, List.set_cons_zero, List.set_cons_succ]
      refine wpAnyH_take (i := 11) (v := ?vz11x58) rfl (by kernel_rfl) (by kernel_rfl) (by kernel_rfl) (fun _ _ _ h => h) (Or.inl ⟨by rfl, ?yz11x58⟩) hHeld ?rz11x58
      case yz11x58 => (intro w' hSw; have hd4 := (HD1.out.keeps hSw (fun h => h rfl)).cell 4; go_simp; try with_reducible rfl)
      simp only [Act.put, List.getElem_toArray, List.getElem_cons_succ, List.getElem_cons_zero, List.setIfInBounds_toArray, List.set_cons_zero, List.set_cons_succ]
      refine wpAnyH_ready (rs := [4, 12]) (by kernel_rfl) (by simp) ?_
      refine AllReadyH.cons rfl (fun KR hK => ?_) (AllReadyH.cons rfl (fun KR hK => ?_) AllReadyH.nil)
      · have hrc := HRC.out _ HKC.out
        go_simp
        try dsimp only
        refine hK.out _ _ hHeld (fun hHeld => ?_)
        clear hK KR
        try simp only [Act.put, List.getElem_toArray, List.getElem_cons_succ, List.getElem_cons_zero, List.setIfInBounds_toArray, List.set_cons_zero, List.set_cons_succ]
        refine wpAnyH_ready (rs := [12]) (by kernel_rfl) (by simp) ?_
        refine AllReadyH.cons rfl (fun KR hK => ?_) AllReadyH.nil
        go_simp
        refine (bits_ yn b _ HY.out HB3.out).mono ?_
        rintro r wa ⟨As, cs, rfl, hos, hk⟩
        have HOS := Lib.hid hos
        replace HKC := Lib.hid (HKC.out.trans hk)
        clear hos
        try dsimp only
        refine hK.out _ _ (hHeld.trans (hk.mono fun _ _ hf => hf.elim)) (fun hHeld => ?_)
        clear hK KR
        try simp only [Act.put, List.getElem_toArray, List.getElem_cons_succ, List.getElem_cons_zero, List.setIfInBounds_toArray, List.set_cons_zero, List.set_cons_succ]
        clear hk
        refine wpAnyH_ready (rs := [13]) (by kernel_rfl) (by simp) ?_
        refine AllReadyH.cons rfl (fun KR hK => ?_) AllReadyH.nil
        refine Ap.step_app rfl (.tmp 35) (.tmp 43) rfl base _ b cs (.slice Ar p.1.length cr) (ib p.1) (ib (tb yn b)) As rfl (own_keeps HM0.out.row HKC.out fun _ _ => id) rfl (Lies.of_own HOS.out) (by rw [ib_len, tb_len]) (by have := HLN.out; omega) (Nat.le_trans HBS.out HKC.out.size) ?_
        intro v' w2 ho hg hat
        obtain ⟨A2, c2, rfl, _⟩ := own_form ho
        rw [← ib_app] at ho
        have HO2 := Lib.hid ho
        have HK2 := Lib.hid (Keeps.grown (HKC.out.mono (S' := fun k => o k = some 2) fun _ _ hf => hf.elim) hg (fun k hk => .inl (HM0.out.orow k hk)))
        have HAT : Hid (∀ b', (Value.slice A2 (p.1.length + b) c2).ownBlock = some b' → o b' = some 2 ∨ w.heap.size ≤ b') := fun b' hb => by
          rcases hat with e | e
          · exact .inl (HM0.out.orow b' (e ▸ hb))
          · rw [e] at hb
            injection hb with hb
            exact .inr (by rw [← hb]; exact HKC.out.size)
        have hst : Keeps (fun k => ¬ k = gd) _ w2 := Keeps.grown (Keeps.refl _ _) hg (fun k hk => .inl (HNG.out k 2 (HM0.out.orow k hk)))
        clear ho hg hat
        try dsimp only
        refine hK.out _ _ (hHeld.trans hst) (fun hHeld => ?_)
        clear hK KR
        try simp only [Act.put, List.getElem_toArray, List.getElem_cons_succ, List.getElem_cons_zero, List.setIfInBounds_toArray, List.set_cons_zero, List.set_cons_succ]
        clear hst
        refine wpAnyH_take (i := 14) (v := ?vz14x59) rfl (by kernel_rfl) (by kernel_rfl) (by kernel_rfl) (fun _ _ _ h => h) (Or.inl ⟨by rfl, ?yz14x59⟩) hHeld ?rz14x59
        case yz14x59 => (intro w' hSw; go_simp; try with_reducible rfl)
        simp only [Act.put, List.getElem_toArray, List.getElem_cons_succ, List.getElem_cons_zero, List.setIfInBounds_toArray, List.set_cons_zero, List.set_cons_succ]
        refine wpAnyH_take (i := 15) (v := ?vz15x60) rfl (by kernel_rfl) (by kernel_rfl) (by kernel_rfl) (fun _ _ _ h => h) (Or.inl ⟨by rfl, ?yz15x60⟩) hHeld ?rz15x60
        case yz15x60 => (intro w' hSw; go_simp; try with_reducible rfl)
        simp only [Act.put, List.getElem_toArray, List.getElem_cons_succ, List.getElem_cons_zero, List.setIfInBounds_toArray, List.set_cons_zero, List.set_cons_succ]
        have hmd := HM0.out.put_row HK2.out HO2.out (by rw [List.length_append, tb_len]) HAT.out
        have HMD := Lib.hid hmd.1
        have HK3 := Lib.hid hmd.2
        have hwc : w2.cell? ⟨g, 0, none⟩ = some (.slice Ar p.1.length cr) := (HM0.out.blk.keeps HK2.out (fun e => by rw [HM0.out.og] at e; cases e)).cell 0
        have hwf : w2.frozen? ⟨g, 0, none⟩ = false := (HM0.out.blk.keeps HK2.out (fun e => by rw [HM0.out.og] at e; cases e)).frozen 0
        have hst : Keeps (· = g) w2 (w2.setCell ⟨g, 0, none⟩ (.slice A2 (p.1.length + b) c2)) := (Keeps.refl _ _).setOwn 0 _
        clear hmd
        refine wpAnyH_ready (rs := [16]) (by kernel_rfl) (by simp) ?_
        refine AllReadyH.cons rfl (fun KR hK => ?_) AllReadyH.nil
        go_simp
        try dsimp only
        refine hK.out _ _ (hHeld.trans (hst.mono fun k _ e => by subst e; exact HNG.out _ 0 HM0.out.og)) (fun hHeld => ?_)
        clear hK KR hst hwc hwf
        try simp only [Act.put, List.getElem_toArray, List.getElem_cons_succ, List.getElem_cons_zero, List.setIfInBounds_toArray, List.set_cons_zero, List.set_cons_succ]
        refine wpAnyH_done (by kernel_rfl) ?_ _
        clear hHeld
        refine NoPanic.normal ?_
        go_wp2
        go_ret
        refine .inr ⟨rfl, (by have := HYC.out; omega), ?_⟩
        rw [HYT.out]
        refine ⟨_, _, _, _, _, HMD.out, HK3.out.mono (fun k _ e => by rcases e with e | e; (rw [e]; simp); (rw [e, HM0.out.og]; simp)), fun k hk => ?_⟩
        rcases lab_sub HAT.out k hk with h | h
        · exact .inl h
        · exact .inr h
      · go_simp
        refine (bits_ yn b _ HY.out HB3.out).mono ?_
        rintro r wa ⟨As, cs, rfl, hos, hk⟩
        have HOS := Lib.hid hos
        replace HKC := Lib.hid (HKC.out.trans hk)
        clear hos
        try dsimp only
        refine hK.out _ _ (hHeld.trans (hk.mono fun _ _ hf => hf.elim)) (fun hHeld => ?_)
        clear hK KR
        try simp only [Act.put, List.getElem_toArray, List.getElem_cons_succ, List.getElem_cons_zero, List.setIfInBounds_toArray, List.set_cons_zero, List.set_cons_succ]
        clear hk
        refine wpAnyH_ready (rs := [4]) (by kernel_rfl) (by simp) ?_
        refine AllReadyH.cons rfl (fun KR hK => ?_) AllReadyH.nil
        have hrc := HRC.out _ HKC.out
        go_simp
        try dsimp only
        refine hK.out _ _ hHeld (fun hHeld => ?_)
        clear hK KR
        try simp only [Act.put, List.getElem_toArray, List.getElem_cons_succ, List.getElem_cons_zero, List.setIfInBounds_toArray, List.set_cons_zero, List.set_cons_succ]
        refine wpAnyH_ready (rs := [13]) (by kernel_rfl) (by simp) ?_
        refine AllReadyH.cons rfl (fun KR hK => ?_) AllReadyH.nil
        refine Ap.step_app rfl (.tmp 35) (.tmp 43) rfl base _ b cs (.slice Ar p.1.length cr) (ib p.1) (ib (tb yn b)) As rfl (own_keeps HM0.out.row HKC.out fun _ _ => id) rfl (Lies.of_own HOS.out) (by rw [ib_len, tb_len]) (by have := HLN.out; omega) (Nat.le_trans HBS.out HKC.out.size) ?_
        intro v' w2 ho hg hat
        obtain ⟨A2, c2, rfl, _⟩ := own_form ho
        rw [← ib_app] at ho
        have HO2 := Lib.hid ho
        have HK2 := Lib.hid (Keeps.grown (HKC.out.mono (S' := fun k => o k = some 2) fun _ _ hf => hf.elim) hg (fun k hk => .inl (HM0.out.orow k hk)))
        have HAT : Hid (∀ b', (Value.slice A2 (p.1.length + b) c2).ownBlock = some b' → o b' = some 2 ∨ w.heap.size ≤ b') := fun b' hb => by
          rcases hat with e | e
          · exact .inl (HM0.out.orow b' (e ▸ hb))
          · rw [e] at hb
            injection hb with hb
            exact .inr (by rw [← hb]; exact HKC.out.size)
        have hst : Keeps (fun k => ¬ k = gd) _ w2 := Keeps.grown (Keeps.refl _ _) hg (fun k hk => .inl (HNG.out k 2 (HM0.out.orow k hk)))
        clear ho hg hat
        try dsimp only
        refine hK.out _ _ (hHeld.trans hst) (fun hHeld => ?_)
        clear hK KR
        try simp only [Act.put, List.getElem_toArray, List.getElem_cons_succ, List.getElem_cons_zero, List.setIfInBounds_toArray, List.set_cons_zero, List.set_cons_succ]
        clear hst
        refine wpAnyH_take (i := 14) (v := ?vz14x61) rfl (by kernel_rfl) (by kernel_rfl) (by kernel_rfl) (fun _ _ _ h => h) (Or.inl ⟨by rfl, ?yz14x61⟩) hHeld ?rz14x61
        case yz14x61 => (intro w' hSw; go_simp; try with_reducible rfl)
        simp only [Act.put, List.getElem_toArray, List.getElem_cons_succ, List.getElem_cons_zero, List.setIfInBounds_toArray, List.set_cons_zero, List.set_cons_succ]
        refine wpAnyH_take (i := 15) (v := ?vz15x62) rfl (by kernel_rfl) (by kernel_rfl) (by kernel_rfl) (fun _ _ _ h => h) (Or.inl ⟨by rfl, ?yz15x62⟩) hHeld ?rz15x62
        case yz15x62 => (intro w' hSw; go_simp; try with_reducible rfl)
        simp only [Act.put, List.getElem_toArray, List.getElem_cons_succ, List.getElem_cons_zero, List.setIfInBounds_toArray, List.set_cons_zero, List.set_cons_succ]
        have hmd := HM0.out.put_row HK2.out HO2.out (by rw [List.length_append, tb_len]) HAT.out
        have HMD := Lib.hid hmd.1
        have HK3 := Lib.hid hmd.2
        have hwc : w2.cell? ⟨g, 0, none⟩ = some (.slice Ar p.1.length cr) := (HM0.out.blk.keeps HK2.out (fun e => by rw [HM0.out.og] at e; cases e)).cell 0
        have hwf : w2.frozen? ⟨g, 0, none⟩ = false := (HM0.out.blk.keeps HK2.out (fun e => by rw [HM0.out.og] at e; cases e)).frozen 0
        have hst : Keeps (· = g) w2 (w2.setCell ⟨g, 0, none⟩ (.slice A2 (p.1.length + b) c2)) := (Keeps.refl _ _).setOwn 0 _
        clear hmd
        refine wpAnyH_ready (rs := [16]) (by kernel_rfl) (by simp) ?_
        refine AllReadyH.cons rfl (fun KR hK => ?_) AllReadyH.nil
        go_simp
        try dsimp only
        refine hK.out _ _ (hHeld.trans (hst.mono fun k _ e => by subst e; exact HNG.out _ 0 HM0.out.og)) (fun hHeld => ?_)
        clear hK KR hst hwc hwf
        try simp only [Act.put, List.getElem_toArray, List.getElem_cons_succ, List.getElem_cons_zero, List.setIfInBounds_toArray, List.set_cons_zero, List.set_cons_succ]
        refine wpAnyH_done (by kernel_rfl) ?_ _
        clear hHeld
        refine NoPanic.normal ?_
        go_wp2
        go_ret
        refine .inr ⟨rfl, (by have := HYC.out; omega), ?_⟩
        rw [HYT.out]
        refine ⟨_, _, _, _, _, HMD.out, HK3.out.mono (fun k _ e => by rcases e with e | e; (rw [e]; simp); (rw [e, HM0.out.og]; simp)), fun k hk => ?_⟩
        rcases lab_sub HAT.out k hk with h | h
        · exact .inl h
        · exact .inr h
theorem fa_to {α β : Type} {R : α → β → Prop} : ∀ {l : List α} {m : List β}, Hw.Fa R l m → ∀ a ∈ l, ∃ b ∈ m, R a b
  | [], [], _, a, ha => by cases ha
  | x :: l, y :: m, hf, a, ha => by
    rcases List.mem_cons.1 ha with rfl | ha
    · exact ⟨y, by simp, hf.1⟩
    · obtain ⟨b, hb, h⟩ := fa_to hf.2 a ha
      exact ⟨b, by simp [hb], h⟩
theorem zero_su8 (w : World) : (zeroValue 29).run Tryz.prog w = .ok (.slice none 0 0) w := by kernel_rfl
/-- What a map of words has of a number. -/
theorem look_words {w : World} {bm : Nat} {L : List (Int × Nat)} {M : List (Lit × Value)} (hm : IsM Tryz.prog 3 w bm M) (hf : Hw.Fa (Hw.Wrd w bm) (wordsOf L) M) {x : Int} (hx : (Lit.int .i64 x).wf = true) :
    (∃ z v A c, Hu.found (wordsOf L) x = some (z, v) ∧ Lies w A (ib (tb v z)) ∧ (Instr.lookup 28 (.map (some bm)) (.int .i64 x) true).run Tryz.prog w = .ok (.tuple #[.slice A z c, .bool true]) w) ∨
    (Hu.found (wordsOf L) x = none ∧ (Instr.lookup 28 (.map (some bm)) (.int .i64 x) true).run Tryz.prog w = .ok (.tuple #[.slice none 0 0, .bool false]) w) := by
  have hl := hm.look w int_ks.keyed Tryz.underlying28 (zero_su8 w) (Go.Maps.keyOf_int_mk Tryz.underlying3 hx)
  cases hF : Hu.found (wordsOf L) x with
  | none =>
    refine .inr ⟨rfl, (hl.2 fun hmem => ?_).2⟩
    obtain ⟨q, hq, e⟩ := List.mem_map.1 hmem
    obtain ⟨t, ht, h1, _⟩ := hf.mem q hq
    rw [h1] at e
    injection e with _ e
    exact Hu.found_none hF (List.mem_map.2 ⟨t, ht, e⟩)
  | some q =>
    obtain ⟨b, hb, h1, A, c, h2, h3, h4, h5⟩ := fa_to hf _ (Hu.found_mem hF)
    obtain ⟨z, v⟩ := q
    refine .inl ⟨z, v, A, c, rfl, h4, ?_⟩
    have hmem : ((Lit.int .i64 x, .slice A z c) : Lit × Value) ∈ M := by
      have : b = (Lit.int .i64 x, .slice A z c) := by rw [← h1, ← h2]
      rw [← this]
      exact hb
    exact (hl.1 _ hmem).2
set_option maxHeartbeats 16000000 in
set_option maxRecDepth 100000 in
theorem mint_words (w : World) (h : Md o base g mb Ar cr fa fc p w) (A : Option Addr) (n c : Nat) (L : List G) (Bl le bi x : Int) (h3 : newE L = 0) (hL : Ents w A n L) (hx : ¬ (x < -2147483647 ∨ 2147483647 < x)) (hlen : p.1.length ≤ 100000) :
    Calls Tryz.prog 16 #[.pointer (some ⟨g, 0, none⟩), .agg #[.int .u8 3, .int .i64 Bl, .slice A n c, .int .i64 le, .int .i64 bi], .int .i64 x] w fun r w' => (r = .returned (.int .i64 11) ∧ Hu.found (wordsOf (nats' L)) x = none ∧ Keeps (fun _ => False) w w') ∨ (∃ z v, r = .returned (.int .i64 0) ∧ Hu.found (wordsOf (nats' L)) x = some (z, v) ∧ Left o base g mb (p.1 ++ tb v z, p.2) w w') := by
  obtain ⟨W0, hW0⟩ : ∃ W0, W0 = w.alloc (.cells #[.int .u8 3, .int .i64 Bl, .slice A n c, .int .i64 le, .int .i64 bi] 43) := ⟨_, rfl⟩
  obtain ⟨gd, hgd⟩ : ∃ x, x = w.heap.size := ⟨_, rfl⟩
  have HKW : Hid (Keeps (fun _ => False) w W0) := by show Keeps _ _ _; rw [hW0]; exact (Keeps.refl _ _).alloc _
  have HD : Hid (Blk W0 gd 43 #[.int .u8 3, .int .i64 Bl, .slice A n c, .int .i64 le, .int .i64 bi]) := by show Blk _ _ _ _; rw [hW0, hgd]; exact Blk.new _ _ _
  have HM0 := Lib.hid h
  have HBS : Hid (base ≤ w.heap.size) := by show base ≤ _; have := h.lt g 0 h.og; omega
  have hx1 : ¬ x < -2147483647 := by omega
  have hx2 : ¬ 2147483647 < x := by omega
  have hxw : (Lit.int .i64 x).wf = true := by
    have hm : IntKind.i64.min = -9223372036854775808 ∧ IntKind.i64.max = 9223372036854775807 := by decide
    simp [Lit.wf, hm.1, hm.2]
    omega
  have HXW := Lib.hid hxw
  have k0 : W0.cell? ⟨gd, 0, none⟩ = some (.int .u8 3) := HD.out.cell 0
  have k1 : W0.cell? ⟨gd, 1, none⟩ = some (.int .i64 Bl) := HD.out.cell 1
  have k2 : W0.cell? ⟨gd, 2, none⟩ = some (.slice A n c) := HD.out.cell 2
  have k3 : W0.cell? ⟨gd, 3, none⟩ = some (.int .i64 le) := HD.out.cell 3
  have k4 : W0.cell? ⟨gd, 4, none⟩ = some (.int .i64 bi) := HD.out.cell 4
  have HWO := Lib.hid (Qw.words_d A n c ⟨3, Bl, L, le, bi⟩ W0 (hL.more HKW.out) h3)
  have HFZ : Hid (∀ z v, Hu.found (wordsOf (nats' L)) x = some (z, v) → z ≤ 20) := fun z v hf => by
    obtain ⟨hlen, herr, hpos⟩ := newE_zero h3
    exact ((words_spec (nats' L) (right_of herr).sizes hpos).1 _ (Hu.found_mem hf)).1
  unfold dv at HWO
  simp only at HWO
  have HPL := Lib.hid hlen
  clear h hlen hL hxw hx h3
  go_enter Tryz.func16, Tryz.ntmps16
  go_upto_region 1 with fail
  rw [← hW0, ← hgd]
  clear hW0 hgd
  go_wp2_with fail
  refine HWO.out.mono ?_
  rintro r w2 ⟨hk2, bm, rfl, hbm, M, hm, hf⟩
  have HK2 := Lib.hid (HKW.out.trans hk2)
  rcases look_words hm hf HXW.out with ⟨z, v, Aw, cw, hfd, hlw, hlk⟩ | ⟨hfd, hlk⟩
  · have HFD := Lib.hid hfd
    have HLW := Lib.hid hlw
    have HZ : Hid (z ≤ 20) := HFZ.out z v hfd
    have hrc : w2.cell? ⟨g, 0, none⟩ = some (.slice Ar p.1.length cr) := (HM0.out.blk.keeps HK2.out id).cell 0
    clear hm hf hbm hk2 hfd hlw HWO HFZ
    go_upto_region 13 with fail
    go_upto_region 14 with (
      at_builtin
      refine Ap.wpList_app rfl (.tmp 80) (.tmp 81) rfl base p.1.length z cw (.slice Ar p.1.length cr) (ib p.1) (ib (tb v z)) Aw rfl (own_keeps HM0.out.row HK2.out fun _ _ => id) rfl HLW.out (by rw [ib_len, tb_len]) (by have := HPL.out; have := HZ.out; omega) (Nat.le_trans HBS.out HK2.out.size) ?_
      intro v' w3 ho hg hat
      obtain ⟨A2, c2, rfl, _⟩ := own_form ho
      rw [← ib_app] at ho
      have hks : Keeps (fun k => o k = some 2) w w3 := Keeps.grown (HK2.out.mono fun _ _ hf => hf.elim) hg (fun k hk => .inl (HM0.out.orow k hk))
      have HAT : Hid (∀ b', (Value.slice A2 (p.1.length + z) c2).ownBlock = some b' → o b' = some 2 ∨ w.heap.size ≤ b') := fun b' hb => by
        rcases hat with e | e
        · exact .inl (HM0.out.orow b' (e ▸ hb))
        · rw [e] at hb
          injection hb with hb
          exact .inr (by rw [← hb]; exact HK2.out.size)
      have hmd := HM0.out.put_row hks ho (by rw [List.length_append, tb_len]) HAT.out
      have HMD := Lib.hid hmd.1
      have HK3 := Lib.hid hmd.2
      have hwc : w3.cell? ⟨g, 0, none⟩ = some (.slice Ar p.1.length cr) := (HM0.out.blk.keeps hks (fun e => by rw [HM0.out.og] at e; cases e)).cell 0
      have hwf : w3.frozen? ⟨g, 0, none⟩ = false := (HM0.out.blk.keeps hks (fun e => by rw [HM0.out.og] at e; cases e)).frozen 0
      clear ho hg hat hks hmd hrc)
    go_wp2
    go_ret
    exact .inr ⟨z, v, rfl, HFD.out, _, _, _, _, _, HMD.out, HK3.out.mono (fun k _ e => by rcases e with e | e; (rw [e]; simp); (rw [e, HM0.out.og]; simp)), fun k hk => lab_sub HAT.out k hk⟩
  · have HFD := Lib.hid hfd
    clear hm hf hbm hk2 hfd HWO HFZ
    go_wp2
    go_ret
    exact .inl ⟨rfl, HFD.out, HK2.out⟩
theorem Left.same {w w' : World} (h : Md o base g mb Ar cr fa fc p w) (k : Keeps (fun _ => False) w w') : Left o base g mb p w w' :=
  ⟨o, Ar, cr, fa, fc, h.more k, k.mono fun _ _ hf => hf.elim, fun _ hk => .inl hk⟩
/-- A number is put into the model. -/
theorem mint_ (w : World) (h : Md o base g mb Ar cr fa fc p w) (A : Option Addr) (n c : Nat) (d : D) (x : Int) (hd : chkI d = 0) (hL : Ents w A n d.L) (hlen : p.1.length ≤ 100000) (hblk : ∀ i, (hadP p.2 i).length ≤ 100000) :
    Calls Tryz.prog 16 #[.pointer (some ⟨g, 0, none⟩), .agg (dv A n c d), .int .i64 x] w fun r w' => r = .returned (.int .i64 (pInt d x p).1) ∧ Left o base g mb (pInt d x p).2 w w' := by
  have hci := chkI_in hd
  have e0 : pInt d x p = putN d x p := if_pos hd
  rw [e0]
  unfold putN
  by_cases hx : x < -2147483647 ∨ 2147483647 < x
  · rw [if_pos hx]
    exact (mint_bad w h _ x hx).mono fun r w' ⟨h1, h2⟩ => ⟨h1, Left.same h h2⟩
  · rw [if_neg hx]
    obtain ⟨K, Bl, L, le, bi⟩ := d
    unfold dv
    simp only at hci hL hd ⊢
    rcases hci with ⟨rfl, hB⟩ | ⟨rfl, h3⟩ | ⟨rfl, hle, hbi⟩
    · obtain ⟨Bn, rfl⟩ := Int.eq_ofNat_of_zero_le (show 0 ≤ Bl by omega)
      rw [if_pos rfl]
      simp only [Int.toNat_natCast]
      exact mint_out w h A n c Bn le bi x (by omega) hx (hblk Bn)
    · rw [if_neg (by decide), if_pos rfl]
      refine (mint_words w h A n c L Bl le bi x h3 hL hx hlen).mono ?_
      rintro r w' (⟨h1, h2, h4⟩ | ⟨z, v, h1, h2, h4⟩)
      · unfold putW
        rw [h2]
        exact ⟨h1, Left.same h h4⟩
      · unfold putW
        rw [h2]
        exact ⟨h1, h4⟩
    · rw [if_neg (by decide), if_neg (by decide)]
      obtain ⟨b, rfl⟩ := Int.eq_ofNat_of_zero_le hbi.1
      refine (mint_fix w h A n c b Bl le x hle (by omega) hx hlen).mono ?_
      rintro r w' (⟨h1, h2, h4⟩ | ⟨h1, h2, h4⟩)
      · unfold Qu.putF
        simp only [Int.toNat_natCast]
        rw [if_pos h2]
        exact ⟨h1, Left.same h h4⟩
      · unfold Qu.putF
        simp only [Int.toNat_natCast]
        rw [if_neg h2]
        exact ⟨h1, h4⟩
end
end Go.Proofs.YtgaofnmgdefdcaaGreatDoor.Qm

namespace Go.Proofs.YtgaofnmgdefdcaaGreatDoor.Qm
open Go.RowKit Go.Proofs.YtgaofnmgdefdcaaGreatDoor.Gen Go.Proofs.YtgaofnmgdefdcaaGreatDoor.Hu Go.Proofs.YtgaofnmgdefdcaaGreatDoor.Mp Go.Proofs.YtgaofnmgdefdcaaGreatDoor.Cm Go.Proofs.YtgaofnmgdefdcaaGreatDoor.Hr Go.Proofs.YtgaofnmgdefdcaaGreatDoor.Hn Go.Proofs.YtgaofnmgdefdcaaGreatDoor.Hk Go.Proofs.YtgaofnmgdefdcaaGreatDoor.Ln Go.Proofs.YtgaofnmgdefdcaaGreatDoor.Ds Go.Proofs.YtgaofnmgdefdcaaGreatDoor.Ky Go.Proofs.YtgaofnmgdefdcaaGreatDoor.Wr Go.Proofs.YtgaofnmgdefdcaaGreatDoor.Ib Go.Proofs.YtgaofnmgdefdcaaGreatDoor.Bp Go.Proofs.YtgaofnmgdefdcaaGreatDoor.Qh Go.Proofs.YtgaofnmgdefdcaaGreatDoor.Qs Go.Proofs.YtgaofnmgdefdcaaGreatDoor.It Go.Proofs.YtgaofnmgdefdcaaGreatDoor.Qi Go.Proofs.YtgaofnmgdefdcaaGreatDoor.Qu Go.Proofs.YtgaofnmgdefdcaaGreatDoor.Qn Go.Proofs.YtgaofnmgdefdcaaGreatDoor.Bq

theorem lies_one {w : World} {bq : Nat} {x : Int} (h : Blk w bq 5 #[.int .u8 x]) : Lies w (some ⟨bq, 0, none⟩) [x] := .inr ⟨bq, 0, rfl, h.lt, fun i hi => by
  have hi0 : i = 0 := by simpa using hi
  subst hi0
  exact h.cell 0⟩
theorem byte_at {w : World} {A : Option Addr} {xs : List Int} {j : Nat} (h : Lies w A xs) (hj : j < xs.length) : ∃ b o, A = some ⟨b, o, none⟩ ∧ b < w.heap.size ∧ w.cell? ⟨b, o + j, none⟩ = some (.int .u8 (xs.getD j 0)) := by
  rcases h with h | ⟨b, o, h, hb, hc⟩
  · rw [h] at hj
    simp at hj
  · exact ⟨b, o, h, hb, hc j hj⟩
section
variable {o : Nat → Option Nat} {base g mb cr : Nat} {Ar : Option Addr} {fa : Nat → Option Addr} {fc : Nat → Nat} {p : St}
theorem Left.trans {o1 : Nat → Option Nat} {q : St} {w w1 w2 : World} (k1 : Keeps (fun k => o k ≠ none) w w1) (s1 : ∀ k, o1 k ≠ none → o k ≠ none ∨ w.heap.size ≤ k) (h : Left o1 base g mb q w1 w2) : Left o base g mb q w w2 := by
  obtain ⟨o2, Ar2, cr2, fa2, fc2, h1, h2, h3⟩ := h
  refine ⟨o2, Ar2, cr2, fa2, fc2, h1, ⟨h2.os.trans k1.os, h2.tape.trans k1.tape, h2.output.trans k1.output, Nat.le_trans k1.size h2.size, fun x hx hn => ?_⟩, fun k hk => ?_⟩
  · exact (h2.block x (Nat.lt_of_lt_of_le hx k1.size) fun e => by
      rcases s1 x e with e | e
      · exact hn e
      · omega).trans (k1.block x hx hn)
  · rcases h3 k hk with e | e
    · exact s1 k e
    · exact .inr (Nat.le_trans k1.size e)
set_option maxHeartbeats 16000000 in
set_option maxRecDepth 100000 in
theorem marr_stop (w : World) (h : Md o base g mb Ar cr fa fc p w) (A Ab : Option Addr) (n c m cb Bn : Nat) (d : E) (bs : List Int) (hK : d.K = 5) (hBn : d.B = (Bn : Int)) (hB : 1 ≤ Bn ∧ Bn ≤ 60000) (hS : 0 ≤ d.S ∧ d.S < 256) (hm : bs.length = m) (hm1 : m ≤ 1000) (hl : Lies w Ab bs) (hE : ∀ b o', Ab = some ⟨b, o', none⟩ → bs ≠ [] → o b = none) (hlen : (hadP p.2 Bn).length ≤ 100000) :
    Calls Tryz.prog 12 #[.pointer (some ⟨g, 0, none⟩), .agg (av A n c d), .slice Ab m cb] w fun r w' => (r = .returned (.int .i64 4) ∧ d.S ∈ bs ∧ Keeps (fun _ => False) w w') ∨ (r = .returned (.int .i64 0) ∧ d.S ∉ bs ∧ Left o base g mb (p.1, pc p.2 Bn (hadP p.2 Bn ++ bs ++ [d.S])) w w') := by
  obtain ⟨A0, c0, hoh, hlb, hlk⟩ := h.had Bn
  obtain ⟨W0, hW0⟩ : ∃ W0, W0 = w.alloc (.cells (av A n c d) 45) := ⟨_, rfl⟩
  obtain ⟨gd, hgd⟩ : ∃ x, x = w.heap.size := ⟨_, rfl⟩
  have HKW : Hid (Keeps (fun _ => False) w W0) := by show Keeps _ _ _; rw [hW0]; exact (Keeps.refl _ _).alloc _
  have hD : Blk W0 gd 45 (av A n c d) := by rw [hW0, hgd]; exact Blk.new _ _ _
  unfold av at hD hW0 ⊢
  rw [hK, hBn] at hD hW0 ⊢
  have HD := Lib.hid hD
  have HM0 := Lib.hid h
  have HM := Lib.hid (h.more HKW.out)
  have HNG : Hid (∀ k x, o k = some x → x ≠ 0 → ¬ k = g ∧ ¬ k = gd) := fun k y hy h0 => ⟨fun e => by rw [e, h.og] at hy; injection hy with hy; exact h0 hy.symm, fun e => by have := (h.lt k y hy).2; omega⟩
  have HBN : Hid (Bn < 60001) := by show Bn < 60001; omega
  have HLK : Hid (∀ W, Keeps (fun _ => False) w W → (Instr.lookup 28 (.map (some mb)) (.int .i64 (Bn : Int)) false).run Tryz.prog W = .ok (.slice A0 (hadP p.2 Bn).length c0) W) := fun W k => hlk HBN.out W (k.mono fun _ _ hf => hf.elim)
  have HOH := Lib.hid hoh
  have HLB := Lib.hid hlb
  have HLI : Hid (∀ W, Keeps (fun _ => False) w W → Lies W Ab bs) := fun W k => hl.keeps k fun _ _ _ => id
  have HBL := Lib.hid hm
  have HLN : Hid ((hadP p.2 Bn).length + m + 1 ≤ 1000000) := by show _ ≤ _; omega
  obtain ⟨h0, hh0⟩ : ∃ n, (hadP p.2 Bn).length = n := ⟨_, rfl⟩
  have HLH := Lib.hid hh0
  rw [hh0] at HLK HOH HLB HLN
  have HBS : Hid (base ≤ w.heap.size) := by show base ≤ _; have := h.lt g 0 h.og; omega
  have k5 : W0.cell? ⟨gd, 5, none⟩ = some (.int .u8 5) := HD.out.cell 5
  have k7 : W0.cell? ⟨gd, 7, none⟩ = some (.int .u8 d.S) := HD.out.cell 7
  obtain ⟨aK, aB, aL, al, ab, SS, hSS⟩ : ∃ aK aB aL al ab SS, (aK, aB, aL, al, ab, SS) = (d.d.K, d.d.B, d.d.L, d.d.le, d.d.bi, d.S) := ⟨_, _, _, _, _, _, rfl⟩
  have HMM : Hid (m ≤ 1000) := hm1
  clear h hD hoh hlb hlk hl hm hm1 hh0 hlen hB hK hBn hE aK aB aL al ab SS hSS
  go_enter Tryz.func12, Tryz.ntmps12
  go_upto_region 1 with fail
  rw [← hW0, ← hgd]
  clear hW0 hgd
  go_wp2
  go_loopw [15] (fun iv wr => ∃ j : Nat, iv = .int .i64 (j : Int) ∧ j ≤ m ∧ wr = W0 ∧ Hid (d.S ∉ bs.take j)) (fun iv _ => m - (intOf iv).toNat)
  case atStart => exact ⟨0, rfl, by omega, rfl, by simp [Hid]⟩
  case round =>
    obtain ⟨j, rfl, hj, rfl, HNI⟩ := hrel
    by_cases hlt : j < m
    · obtain ⟨ba, oa, rfl, _, hcb⟩ := byte_at (HLI.out wr HKW.out) (j := j) (by have := HBL.out; omega)
      have hj0 : (0 : Int) ≤ (j : Int) := by omega
      have hj1 : (j : Int) < (m : Int) := by omega
      have hjw : IntKind.i64.wrap ((j : Int) + 1) = (j : Int) + 1 := IntWalk.i64_in _ (by have := HMM.out; omega)
      obtain ⟨x, hx⟩ : ∃ x, bs.getD j 0 = x := ⟨_, rfl⟩
      have HXX : Hid (bs[j]? = some x) := by show _ = _; rw [← hx, List.getD_eq_getElem?_getD, List.getElem?_eq_getElem (by have := HBL.out; omega)]; rfl
      rw [hx] at hcb
      clear hx
      by_cases hxs : x = d.S
      · have HIN : Hid (d.S ∈ bs) := by show _ ∈ _; rw [← hxs]; exact List.mem_of_getElem? HXX.out
        go_wp2
        go_ret
        exact .inl ⟨rfl, HIN.out, HKW.out⟩
      · have hxe : (x == d.S) = false := by simpa using hxs
        have HNI2 : Hid (d.S ∉ bs.take (j + 1)) := by
          show _ ∉ _
          rw [List.take_add_one, HXX.out]
          intro hm
          rcases List.mem_append.1 hm with h1 | h1
          · exact HNI.out h1
          · simp at h1
            exact hxs h1.symm
        go_wp2
        exact ⟨⟨j + 1, by go_num, by omega, trivial, HNI2⟩, by simp [intOf]; omega⟩
    · obtain rfl : j = m := by omega
      have HNN : Hid (d.S ∉ bs) := by
        have := HNI.out
        rw [List.take_of_length_le (by have := HBL.out; omega)] at this
        exact this
      obtain ⟨W0, rfl⟩ : ∃ x, x = wr := ⟨_, rfl⟩
      obtain ⟨m, rfl⟩ : ∃ x, x = j := ⟨_, rfl⟩
      have HNA : Hid (∀ k, o k = some (3 + Bn) ∨ W0.heap.size ≤ k → ¬ k = g ∧ ¬ k = gd) := fun k hk => by
        rcases hk with hk | hk
        · exact HNG.out k (3 + Bn) hk (by omega)
        · have h1 := HD.out.lt
          have h2 := (HM.out.lt g 0 HM.out.og).2
          exact ⟨by omega, by omega⟩
      clear hlt hj HNI
      go_upto_region 8 with fail
      refine wp_region_noPanic ?_
      refine wp_region_held_drew (S := fun w' => Keeps (fun k => ¬ k = g ∧ ¬ k = gd) W0 w') (by kernel_rfl) (((Keeps.refl (fun _ => False) _).drewN 1).mono fun _ _ hf => hf.elim) (fun hHeld => ?_)
      have HKD : Hid (Keeps (fun _ => False) W0 W0.drew) := (Keeps.refl _ _).drewN 1
      have hHeld2 : Keeps (fun k => ¬ k = g ∧ ¬ k = gd) W0 W0.drew := hHeld
      clear hHeld
      generalize W0.drew = wd at hHeld2 HKD ⊢
      have hHeld := hHeld2
      clear hHeld2
      have HKC := Lib.hid (HKW.out.trans HKD.out)
      have HSC : Hid (∀ x, Keeps (fun k => ¬ k = g ∧ ¬ k = gd) W0 x → w.heap.size ≤ x.heap.size) := fun x k => Nat.le_trans HKW.out.size k.size
      clear HKD
      refine wpAnyH_take (i := 0) (v := ?vz0x63) rfl (by kernel_rfl) (by kernel_rfl) (by kernel_rfl) (fun _ _ _ h => h) (Or.inl ⟨by rfl, ?yz0x63⟩) hHeld ?rz0x63
      case yz0x63 => (intro w' hSw; go_simp; try with_reducible rfl)
      simp only [Act.put, List.getElem_toArray, List.getElem_cons_succ, List.getElem_cons_zero, List.setIfInBounds_toArray, List.set_cons_zero, List.set_cons_succ]
      refine wpAnyH_take (i := 1) (v := ?vz1x64) rfl (by kernel_rfl) (by kernel_rfl) (by kernel_rfl) (fun _ _ _ h => h) (Or.inl ⟨by rfl, ?yz1x64⟩) hHeld ?rz1x64
      case yz1x64 => (intro w' hSw; go_simp; try with_reducible rfl)
      simp only [Act.put, List.getElem_toArray, List.getElem_cons_succ, List.getElem_cons_zero, List.setIfInBounds_toArray, List.set_cons_zero, List.set_cons_succ]
      refine wpAnyH_take (i := 2) (v := ?vz2x65) rfl (by kernel_rfl) (by kernel_rfl) (by kernel_rfl) (fun _ _ _ h => h) (Or.inl ⟨by rfl, ?yz2x65⟩) hHeld ?rz2x65
      case yz2x65 => (intro w' hSw; go_simp; try with_reducible rfl)
      simp only [Act.put, List.getElem_toArray, List.getElem_cons_succ, List.getElem_cons_zero, List.setIfInBounds_toArray, List.set_cons_zero, List.set_cons_succ]
      refine wpAnyH_take (i := 3) (v := ?vz3x66) rfl (by kernel_rfl) (by kernel_rfl) (by kernel_rfl) (fun _ _ _ h => h) (Or.inl ⟨by rfl, ?yz3x66⟩) hHeld ?rz3x66
      case yz3x66 => (intro w' hSw; have hc1 := (HM.out.blk.keeps hSw (fun h => h.1 rfl)).cell 1; go_simp; try with_reducible rfl)
      simp only [Act.put, List.getElem_toArray, List.getElem_cons_succ, List.getElem_cons_zero, List.setIfInBounds_toArray, List.set_cons_zero, List.set_cons_succ]
      refine wpAnyH_take (i := 4) (v := ?vz4x67) rfl (by kernel_rfl) (by kernel_rfl) (by kernel_rfl) (fun _ _ _ h => h) (Or.inl ⟨by rfl, ?yz4x67⟩) hHeld ?rz4x67
      case yz4x67 => (intro w' hSw; go_simp; try with_reducible rfl)
      simp only [Act.put, List.getElem_toArray, List.getElem_cons_succ, List.getElem_cons_zero, List.setIfInBounds_toArray, List.set_cons_zero, List.set_cons_succ]
      refine wpAnyH_take (i := 5) (v := ?vz5x68) rfl (by kernel_rfl) (by kernel_rfl) (by kernel_rfl) (fun _ _ _ h => h) (Or.inl ⟨by rfl, ?yz5x68⟩) hHeld ?rz5x68
      case yz5x68 => (intro w' hSw; have hd6 := (HD.out.keeps hSw (fun h => h.2 rfl)).cell 6; go_simp; try with_reducible rfl)
      simp only [Act.put, List.getElem_toArray, List.getElem_cons_succ, List.getElem_cons_zero, List.setIfInBounds_toArray, List.set_cons_zero, List.set_cons_succ]
      refine wpAnyH_take (i := 6) (v := ?vz6x69) rfl (by kernel_rfl) (by kernel_rfl) (by kernel_rfl) (fun _ _ _ h => h) (Or.inl ⟨by rfl, ?yz6x69⟩) hHeld ?rz6x69
      case yz6x69 => (intro w' hSw; go_simp; try with_reducible rfl)
      simp only [Act.put, List.getElem_toArray, List.getElem_cons_succ, List.getElem_cons_zero, List.setIfInBounds_toArray, List.set_cons_zero, List.set_cons_succ]
      refine wpAnyH_take (i := 7) (v := ?vz7x70) rfl (by kernel_rfl) (by kernel_rfl) (by kernel_rfl) (fun _ _ _ h => h) (Or.inl ⟨by rfl, ?yz7x70⟩) hHeld ?rz7x70
      case yz7x70 => (intro w' hSw; go_simp; try with_reducible rfl)
      simp only [Act.put, List.getElem_toArray, List.getElem_cons_succ, List.getElem_cons_zero, List.setIfInBounds_toArray, List.set_cons_zero, List.set_cons_succ]
      refine wpAnyH_take (i := 8) (v := ?vz8x71) rfl (by kernel_rfl) (by kernel_rfl) (by kernel_rfl) (fun _ _ _ h => h) (Or.inl ⟨by rfl, ?yz8x71⟩) hHeld ?rz8x71
      case yz8x71 => (intro w' hSw; go_simp; try with_reducible rfl)
      simp only [Act.put, List.getElem_toArray, List.getElem_cons_succ, List.getElem_cons_zero, List.setIfInBounds_toArray, List.set_cons_zero, List.set_cons_succ]
      refine wpAnyH_take (i := 9) (v := ?vz9x72) rfl (by kernel_rfl) (by kernel_rfl) (by kernel_rfl) (fun _ _ _ h => h) (Or.inl ⟨by rfl, ?yz9x72⟩) hHeld ?rz9x72
      case yz9x72 => (intro w' hSw; have hc1 := (HM.out.blk.keeps hSw (fun h => h.1 rfl)).cell 1; go_simp; try with_reducible rfl)
      simp only [Act.put, List.getElem_toArray, List.getElem_cons_succ, List.getElem_cons_zero, List.setIfInBounds_toArray, List.set_cons_zero, List.set_cons_succ]
      refine wpAnyH_take (i := 10) (v := ?vz10x73) rfl (by kernel_rfl) (by kernel_rfl) (by kernel_rfl) (fun _ _ _ h => h) (Or.inl ⟨by rfl, ?yz10x73⟩) hHeld ?rz10x73
      case yz10x73 => (intro w' hSw; go_simp; try with_reducible rfl)
      simp only [Act.put, List.getElem_toArray, List.getElem_cons_succ, List.getElem_cons_zero, List.setIfInBounds_toArray, List.set_cons_zero, List.set_cons_succ]
      refine wpAnyH_take (i := 11) (v := ?vz11x74) rfl (by kernel_rfl) (by kernel_rfl) (by kernel_rfl) (fun _ _ _ h => h) (Or.inl ⟨by rfl, ?yz11x74⟩) hHeld ?rz11x74
      case yz11x74 => (intro w' hSw; have hd6 := (HD.out.keeps hSw (fun h => h.2 rfl)).cell 6; go_simp; try with_reducible rfl)
      simp only [Act.put, List.getElem_toArray, List.getElem_cons_succ, List.getElem_cons_zero, List.setIfInBounds_toArray, List.set_cons_zero, List.set_cons_succ]
      refine wpAnyH_take (i := 13) (v := ?vz13x75) rfl (by kernel_rfl) (by kernel_rfl) (by kernel_rfl) (fun _ _ _ h => h) (Or.inl ⟨by rfl, ?yz13x75⟩) hHeld ?rz13x75
      case yz13x75 => (intro w' hSw; go_simp; try with_reducible rfl)
      simp only [Act.put, List.getElem_toArray, List.getElem_cons_succ, List.getElem_cons_zero, List.setIfInBounds_toArray, List.set_cons_zero, List.set_cons_succ]
      refine wpAnyH_take (i := 15) (v := ?vz15x76) rfl (by kernel_rfl) (by kernel_rfl) (by kernel_rfl) (fun _ _ _ h => h) (Or.inl ⟨by rfl, ?yz15x76⟩) hHeld ?rz15x76
      case yz15x76 => (intro w' hSw; go_simp; try with_reducible rfl)
      simp only [Act.put, List.getElem_toArray, List.getElem_cons_succ, List.getElem_cons_zero, List.setIfInBounds_toArray, List.set_cons_zero, List.set_cons_succ]
      refine wpAnyH_take (i := 16) (v := ?vz16x77) rfl (by kernel_rfl) (by kernel_rfl) (by kernel_rfl) (fun _ _ _ h => h) (Or.inl ⟨by rfl, ?yz16x77⟩) hHeld ?rz16x77
      case yz16x77 => (intro w' hSw; have hd7 := (HD.out.keeps hSw (fun h => h.2 rfl)).cell 7; go_simp; try with_reducible rfl)
      simp only [Act.put, List.getElem_toArray, List.getElem_cons_succ, List.getElem_cons_zero, List.setIfInBounds_toArray, List.set_cons_zero, List.set_cons_succ]
      refine wpAnyH_ready (rs := [12, 17]) (by kernel_rfl) (by simp) ?_
      refine AllReadyH.cons rfl (fun KR hK => ?_) (AllReadyH.cons rfl (fun KR hK => ?_) AllReadyH.nil)
      · have hlk := HLK.out _ HKC.out
        go_simp
        try dsimp only
        refine hK.out _ _ hHeld (fun hHeld => ?_)
        clear hK KR
        try simp only [Act.put, List.getElem_toArray, List.getElem_cons_succ, List.getElem_cons_zero, List.setIfInBounds_toArray, List.set_cons_zero, List.set_cons_succ]
        refine wpAnyH_ready (rs := [14, 17]) (by kernel_rfl) (by simp) ?_
        refine AllReadyH.cons rfl (fun KR hK => ?_) (AllReadyH.cons rfl (fun KR hK => ?_) AllReadyH.nil)
        · refine Ap.step_app rfl (.tmp 36) (.tmp 37) rfl base _ m cb (.slice A0 h0 c0) (hadP p.2 Bn) bs Ab rfl (own_keeps HOH.out HKC.out fun _ _ => id) rfl (HLI.out _ HKC.out) HBL.out (by have := HLN.out; omega) (Nat.le_trans HBS.out HKC.out.size) ?_
          intro v' w2 ho hg hat
          obtain ⟨A1, c1, rfl, _⟩ := own_form ho
          have HO1 := Lib.hid ho
          have HK1 := Lib.hid (Keeps.grown (HKC.out.mono (S' := fun k => o k = some (3 + Bn)) fun _ _ hf => hf.elim) hg (fun k hk => .inl (HLB.out k hk)))
          have HAT1 : Hid (∀ b, (Value.slice A1 (h0 + m) c1).ownBlock = some b → o b = some (3 + Bn) ∨ W0.heap.size ≤ b) := fun b hb => by
            rcases hat with e | e
            · exact .inl (HLB.out b (e ▸ hb))
            · rw [e] at hb
              injection hb with hb
              exact .inr (by rw [← hb]; exact hHeld.size)
          have HSZ := Lib.hid HK1.out.size
          have hst : Keeps (fun k => ¬ k = g ∧ ¬ k = gd) _ w2 := Keeps.grown (Keeps.refl _ _) hg (fun k hk => .inl (HNG.out k (3 + Bn) (HLB.out k hk) (by omega)))
          clear ho hg hat
          try dsimp only
          refine hK.out _ _ (hHeld.trans hst) (fun hHeld => ?_)
          clear hK KR
          try simp only [Act.put, List.getElem_toArray, List.getElem_cons_succ, List.getElem_cons_zero, List.setIfInBounds_toArray, List.set_cons_zero, List.set_cons_succ]
          clear hst
          refine wpAnyH_ready (rs := [17]) (by kernel_rfl) (by simp) ?_
          refine AllReadyH.cons rfl (fun KR hK => ?_) AllReadyH.nil
          go_simp
          have hk := (Keeps.refl (fun _ => False) w2).alloc (.cells #[.int .u8 d.S] 5)
          have HBQ := Lib.hid (Blk.new w2 5 #[.int .u8 d.S])
          have hob := own_keeps HO1.out hk fun _ _ => id
          replace HO1 := Lib.hid hob
          replace HK1 := Lib.hid (HK1.out.trans (hk.mono fun _ _ hf => hf.elim))
          clear hob
          have HBG : Hid (w.heap.size ≤ w2.heap.size) := HSZ.out
          generalize w2.alloc (.cells #[.int .u8 d.S] 5) = wb at *
          obtain ⟨bq, hbq⟩ : ∃ q, w2.heap.size = q := ⟨_, rfl⟩
          rw [hbq] at HBQ HBG ⊢
          clear hbq
          try dsimp only
          refine hK.out _ _ (hHeld.trans (hk.mono fun _ _ hf => hf.elim)) (fun hHeld => ?_)
          clear hK KR
          try simp only [Act.put, List.getElem_toArray, List.getElem_cons_succ, List.getElem_cons_zero, List.setIfInBounds_toArray, List.set_cons_zero, List.set_cons_succ]
          clear hk
          refine wpAnyH_ready (rs := [18]) (by kernel_rfl) (by simp) ?_
          refine AllReadyH.cons rfl (fun KR hK => ?_) AllReadyH.nil
          refine Ap.step_app rfl (.tmp 38) (.tmp 41) rfl base _ 1 1 (.slice A1 (h0 + m) c1) (hadP p.2 Bn ++ bs) [d.S] (some ⟨bq, 0, none⟩) rfl HO1.out rfl (lies_one HBQ.out) rfl (by have := HLN.out; omega) (Nat.le_trans HBS.out HK1.out.size) ?_
          intro v' w3 ho hg hat
          obtain ⟨A2, c2, rfl, _⟩ := own_form ho
          have HO2 := Lib.hid ho
          have HK2 := Lib.hid (Keeps.grown HK1.out hg (fun k hk => (HAT1.out k hk).imp id (Nat.le_trans HKW.out.size)))
          have HAT : Hid (∀ b, (Value.slice A2 (h0 + m + 1) c2).ownBlock = some b → o b = some (3 + Bn) ∨ w.heap.size ≤ b) := fun b hb => by
            rcases hat with e | e
            · exact (HAT1.out b (e ▸ hb)).imp id (Nat.le_trans HKW.out.size)
            · rw [e] at hb
              injection hb with hb
              exact .inr (by rw [← hb]; exact HK1.out.size)
          have hst : Keeps (fun k => ¬ k = g ∧ ¬ k = gd) _ w3 := Keeps.grown (Keeps.refl _ _) hg (fun k hk => .inl (HNA.out k (HAT1.out k hk)))
          clear ho hg hat
          try dsimp only
          refine hK.out _ _ (hHeld.trans hst) (fun hHeld => ?_)
          clear hK KR
          try simp only [Act.put, List.getElem_toArray, List.getElem_cons_succ, List.getElem_cons_zero, List.setIfInBounds_toArray, List.set_cons_zero, List.set_cons_succ]
          clear hst
          obtain ⟨w4, hrun, hmd, hk3, hk4⟩ := HM0.out.put HBN.out HK2.out HO2.out (by rw [List.length_append, List.length_append, HBL.out, HLH.out]; rfl) HAT.out
          have HMD := Lib.hid hmd
          have HK3 := Lib.hid hk3
          clear hmd hk3
          refine wpAnyH_ready (rs := [19]) (by kernel_rfl) (by simp) ?_
          refine AllReadyH.cons rfl (fun KR hK => ?_) AllReadyH.nil
          go_simp
          try dsimp only
          refine hK.out _ _ (hHeld.trans (hk4.mono fun k _ e => by subst e; exact HNG.out _ 1 HM0.out.om (by omega))) (fun hHeld => ?_)
          clear hK KR hk4
          try simp only [Act.put, List.getElem_toArray, List.getElem_cons_succ, List.getElem_cons_zero, List.setIfInBounds_toArray, List.set_cons_zero, List.set_cons_succ]
          refine wpAnyH_done (by kernel_rfl) ?_ _
          clear hHeld
          refine NoPanic.normal ?_
          go_wp2
          go_ret
          exact .inr ⟨rfl, HNN.out, _, _, _, _, _, HMD.out, HK3.out.mono (fun k _ e => by rcases e with e | e; (rw [e]; simp); (rw [e, HM0.out.om]; simp)), fun k hk => lab_sub HAT.out k hk⟩
        · go_simp
          have hk := (Keeps.refl (fun _ => False) wd).alloc (.cells #[.int .u8 d.S] 5)
          have HBQ := Lib.hid (Blk.new wd 5 #[.int .u8 d.S])
          replace HKC := Lib.hid (HKC.out.trans hk)
          have HBG : Hid (w.heap.size ≤ wd.heap.size) := HSC.out wd hHeld
          generalize wd.alloc (.cells #[.int .u8 d.S] 5) = wb at *
          obtain ⟨bq, hbq⟩ : ∃ q, wd.heap.size = q := ⟨_, rfl⟩
          rw [hbq] at HBQ HBG ⊢
          clear hbq
          try dsimp only
          refine hK.out _ _ (hHeld.trans (hk.mono fun _ _ hf => hf.elim)) (fun hHeld => ?_)
          clear hK KR
          try simp only [Act.put, List.getElem_toArray, List.getElem_cons_succ, List.getElem_cons_zero, List.setIfInBounds_toArray, List.set_cons_zero, List.set_cons_succ]
          clear hk
          refine wpAnyH_ready (rs := [14]) (by kernel_rfl) (by simp) ?_
          refine AllReadyH.cons rfl (fun KR hK => ?_) AllReadyH.nil
          refine Ap.step_app rfl (.tmp 36) (.tmp 37) rfl base _ m cb (.slice A0 h0 c0) (hadP p.2 Bn) bs Ab rfl (own_keeps HOH.out HKC.out fun _ _ => id) rfl (HLI.out _ HKC.out) HBL.out (by have := HLN.out; omega) (Nat.le_trans HBS.out HKC.out.size) ?_
          intro v' w2 ho hg hat
          obtain ⟨A1, c1, rfl, _⟩ := own_form ho
          have HO1 := Lib.hid ho
          have HK1 := Lib.hid (Keeps.grown (HKC.out.mono (S' := fun k => o k = some (3 + Bn)) fun _ _ hf => hf.elim) hg (fun k hk => .inl (HLB.out k hk)))
          have HAT1 : Hid (∀ b, (Value.slice A1 (h0 + m) c1).ownBlock = some b → o b = some (3 + Bn) ∨ W0.heap.size ≤ b) := fun b hb => by
            rcases hat with e | e
            · exact .inl (HLB.out b (e ▸ hb))
            · rw [e] at hb
              injection hb with hb
              exact .inr (by rw [← hb]; exact hHeld.size)
          have HSZ := Lib.hid HK1.out.size
          replace HBQ := Lib.hid (HBQ.out.grown hg (fun e => by have h1 := HLB.out bq e; have h2 := (HM0.out.lt bq _ h1).2; have := HBG.out; omega))
          have hst : Keeps (fun k => ¬ k = g ∧ ¬ k = gd) _ w2 := Keeps.grown (Keeps.refl _ _) hg (fun k hk => .inl (HNG.out k (3 + Bn) (HLB.out k hk) (by omega)))
          clear ho hg hat
          try dsimp only
          refine hK.out _ _ (hHeld.trans hst) (fun hHeld => ?_)
          clear hK KR
          try simp only [Act.put, List.getElem_toArray, List.getElem_cons_succ, List.getElem_cons_zero, List.setIfInBounds_toArray, List.set_cons_zero, List.set_cons_succ]
          clear hst
          refine wpAnyH_ready (rs := [18]) (by kernel_rfl) (by simp) ?_
          refine AllReadyH.cons rfl (fun KR hK => ?_) AllReadyH.nil
          refine Ap.step_app rfl (.tmp 38) (.tmp 41) rfl base _ 1 1 (.slice A1 (h0 + m) c1) (hadP p.2 Bn ++ bs) [d.S] (some ⟨bq, 0, none⟩) rfl HO1.out rfl (lies_one HBQ.out) rfl (by have := HLN.out; omega) (Nat.le_trans HBS.out HK1.out.size) ?_
          intro v' w3 ho hg hat
          obtain ⟨A2, c2, rfl, _⟩ := own_form ho
          have HO2 := Lib.hid ho
          have HK2 := Lib.hid (Keeps.grown HK1.out hg (fun k hk => (HAT1.out k hk).imp id (Nat.le_trans HKW.out.size)))
          have HAT : Hid (∀ b, (Value.slice A2 (h0 + m + 1) c2).ownBlock = some b → o b = some (3 + Bn) ∨ w.heap.size ≤ b) := fun b hb => by
            rcases hat with e | e
            · exact (HAT1.out b (e ▸ hb)).imp id (Nat.le_trans HKW.out.size)
            · rw [e] at hb
              injection hb with hb
              exact .inr (by rw [← hb]; exact HK1.out.size)
          have hst : Keeps (fun k => ¬ k = g ∧ ¬ k = gd) _ w3 := Keeps.grown (Keeps.refl _ _) hg (fun k hk => .inl (HNA.out k (HAT1.out k hk)))
          clear ho hg hat
          try dsimp only
          refine hK.out _ _ (hHeld.trans hst) (fun hHeld => ?_)
          clear hK KR
          try simp only [Act.put, List.getElem_toArray, List.getElem_cons_succ, List.getElem_cons_zero, List.setIfInBounds_toArray, List.set_cons_zero, List.set_cons_succ]
          clear hst
          obtain ⟨w4, hrun, hmd, hk3, hk4⟩ := HM0.out.put HBN.out HK2.out HO2.out (by rw [List.length_append, List.length_append, HBL.out, HLH.out]; rfl) HAT.out
          have HMD := Lib.hid hmd
          have HK3 := Lib.hid hk3
          clear hmd hk3
          refine wpAnyH_ready (rs := [19]) (by kernel_rfl) (by simp) ?_
          refine AllReadyH.cons rfl (fun KR hK => ?_) AllReadyH.nil
          go_simp
          try dsimp only
          refine hK.out _ _ (hHeld.trans (hk4.mono fun k _ e => by subst e; exact HNG.out _ 1 HM0.out.om (by omega))) (fun hHeld => ?_)
          clear hK KR hk4
          try simp only [Act.put, List.getElem_toArray, List.getElem_cons_succ, List.getElem_cons_zero, List.setIfInBounds_toArray, List.set_cons_zero, List.set_cons_succ]
          refine wpAnyH_done (by kernel_rfl) ?_ _
          clear hHeld
          refine NoPanic.normal ?_
          go_wp2
          go_ret
          exact .inr ⟨rfl, HNN.out, _, _, _, _, _, HMD.out, HK3.out.mono (fun k _ e => by rcases e with e | e; (rw [e]; simp); (rw [e, HM0.out.om]; simp)), fun k hk => lab_sub HAT.out k hk⟩
      · go_simp
        have hk := (Keeps.refl (fun _ => False) wd).alloc (.cells #[.int .u8 d.S] 5)
        have HBQ := Lib.hid (Blk.new wd 5 #[.int .u8 d.S])
        replace HKC := Lib.hid (HKC.out.trans hk)
        have HBG : Hid (w.heap.size ≤ wd.heap.size) := HSC.out wd hHeld
        generalize wd.alloc (.cells #[.int .u8 d.S] 5) = wb at *
        obtain ⟨bq, hbq⟩ : ∃ q, wd.heap.size = q := ⟨_, rfl⟩
        rw [hbq] at HBQ HBG ⊢
        clear hbq
        try dsimp only
        refine hK.out _ _ (hHeld.trans (hk.mono fun _ _ hf => hf.elim)) (fun hHeld => ?_)
        clear hK KR
        try simp only [Act.put, List.getElem_toArray, List.getElem_cons_succ, List.getElem_cons_zero, List.setIfInBounds_toArray, List.set_cons_zero, List.set_cons_succ]
        clear hk
        refine wpAnyH_ready (rs := [12]) (by kernel_rfl) (by simp) ?_
        refine AllReadyH.cons rfl (fun KR hK => ?_) AllReadyH.nil
        have hlk := HLK.out _ HKC.out
        go_simp
        try dsimp only
        refine hK.out _ _ hHeld (fun hHeld => ?_)
        clear hK KR
        try simp only [Act.put, List.getElem_toArray, List.getElem_cons_succ, List.getElem_cons_zero, List.setIfInBounds_toArray, List.set_cons_zero, List.set_cons_succ]
        refine wpAnyH_ready (rs := [14]) (by kernel_rfl) (by simp) ?_
        refine AllReadyH.cons rfl (fun KR hK => ?_) AllReadyH.nil
        refine Ap.step_app rfl (.tmp 36) (.tmp 37) rfl base _ m cb (.slice A0 h0 c0) (hadP p.2 Bn) bs Ab rfl (own_keeps HOH.out HKC.out fun _ _ => id) rfl (HLI.out _ HKC.out) HBL.out (by have := HLN.out; omega) (Nat.le_trans HBS.out HKC.out.size) ?_
        intro v' w2 ho hg hat
        obtain ⟨A1, c1, rfl, _⟩ := own_form ho
        have HO1 := Lib.hid ho
        have HK1 := Lib.hid (Keeps.grown (HKC.out.mono (S' := fun k => o k = some (3 + Bn)) fun _ _ hf => hf.elim) hg (fun k hk => .inl (HLB.out k hk)))
        have HAT1 : Hid (∀ b, (Value.slice A1 (h0 + m) c1).ownBlock = some b → o b = some (3 + Bn) ∨ W0.heap.size ≤ b) := fun b hb => by
          rcases hat with e | e
          · exact .inl (HLB.out b (e ▸ hb))
          · rw [e] at hb
            injection hb with hb
            exact .inr (by rw [← hb]; exact hHeld.size)
        have HSZ := Lib.hid HK1.out.size
        replace HBQ := Lib.hid (HBQ.out.grown hg (fun e => by have h1 := HLB.out bq e; have h2 := (HM0.out.lt bq _ h1).2; have := HBG.out; omega))
        have hst : Keeps (fun k => ¬ k = g ∧ ¬ k = gd) _ w2 := Keeps.grown (Keeps.refl _ _) hg (fun k hk => .inl (HNG.out k (3 + Bn) (HLB.out k hk) (by omega)))
        clear ho hg hat
        try dsimp only
        refine hK.out _ _ (hHeld.trans hst) (fun hHeld => ?_)
        clear hK KR
        try simp only [Act.put, List.getElem_toArray, List.getElem_cons_succ, List.getElem_cons_zero, List.setIfInBounds_toArray, List.set_cons_zero, List.set_cons_succ]
        clear hst
        refine wpAnyH_ready (rs := [18]) (by kernel_rfl) (by simp) ?_
        refine AllReadyH.cons rfl (fun KR hK => ?_) AllReadyH.nil
        refine Ap.step_app rfl (.tmp 38) (.tmp 41) rfl base _ 1 1 (.slice A1 (h0 + m) c1) (hadP p.2 Bn ++ bs) [d.S] (some ⟨bq, 0, none⟩) rfl HO1.out rfl (lies_one HBQ.out) rfl (by have := HLN.out; omega) (Nat.le_trans HBS.out HK1.out.size) ?_
        intro v' w3 ho hg hat
        obtain ⟨A2, c2, rfl, _⟩ := own_form ho
        have HO2 := Lib.hid ho
        have HK2 := Lib.hid (Keeps.grown HK1.out hg (fun k hk => (HAT1.out k hk).imp id (Nat.le_trans HKW.out.size)))
        have HAT : Hid (∀ b, (Value.slice A2 (h0 + m + 1) c2).ownBlock = some b → o b = some (3 + Bn) ∨ w.heap.size ≤ b) := fun b hb => by
          rcases hat with e | e
          · exact (HAT1.out b (e ▸ hb)).imp id (Nat.le_trans HKW.out.size)
          · rw [e] at hb
            injection hb with hb
            exact .inr (by rw [← hb]; exact HK1.out.size)
        have hst : Keeps (fun k => ¬ k = g ∧ ¬ k = gd) _ w3 := Keeps.grown (Keeps.refl _ _) hg (fun k hk => .inl (HNA.out k (HAT1.out k hk)))
        clear ho hg hat
        try dsimp only
        refine hK.out _ _ (hHeld.trans hst) (fun hHeld => ?_)
        clear hK KR
        try simp only [Act.put, List.getElem_toArray, List.getElem_cons_succ, List.getElem_cons_zero, List.setIfInBounds_toArray, List.set_cons_zero, List.set_cons_succ]
        clear hst
        obtain ⟨w4, hrun, hmd, hk3, hk4⟩ := HM0.out.put HBN.out HK2.out HO2.out (by rw [List.length_append, List.length_append, HBL.out, HLH.out]; rfl) HAT.out
        have HMD := Lib.hid hmd
        have HK3 := Lib.hid hk3
        clear hmd hk3
        refine wpAnyH_ready (rs := [19]) (by kernel_rfl) (by simp) ?_
        refine AllReadyH.cons rfl (fun KR hK => ?_) AllReadyH.nil
        go_simp
        try dsimp only
        refine hK.out _ _ (hHeld.trans (hk4.mono fun k _ e => by subst e; exact HNG.out _ 1 HM0.out.om (by omega))) (fun hHeld => ?_)
        clear hK KR hk4
        try simp only [Act.put, List.getElem_toArray, List.getElem_cons_succ, List.getElem_cons_zero, List.setIfInBounds_toArray, List.set_cons_zero, List.set_cons_succ]
        refine wpAnyH_done (by kernel_rfl) ?_ _
        clear hHeld
        refine NoPanic.normal ?_
        go_wp2
        go_ret
        exact .inr ⟨rfl, HNN.out, _, _, _, _, _, HMD.out, HK3.out.mono (fun k _ e => by rcases e with e | e; (rw [e]; simp); (rw [e, HM0.out.om]; simp)), fun k hk => lab_sub HAT.out k hk⟩
set_option maxHeartbeats 16000000 in
set_option maxRecDepth 100000 in
theorem marr_cnt (w : World) (h : Md o base g mb Ar cr fa fc p w) (A Ab : Option Addr) (n c m cb Bn : Nat) (d : E) (bs : List Int) (hK : d.K = 4) (hBn : d.B = (Bn : Int)) (hB : 1 ≤ Bn ∧ Bn ≤ 60000) (hd : chkI d.d = 0) (hL : Ents w A n d.d.L) (hm : bs.length = m) (hm1 : m ≤ 1000) (hl : Lies w Ab bs) (hE : ∀ b o', Ab = some ⟨b, o', none⟩ → bs ≠ [] → o b = none) (hrow : p.1.length ≤ 100000) (hlen : ∀ i, (hadP p.2 i).length ≤ 100000) :
    Calls Tryz.prog 12 #[.pointer (some ⟨g, 0, none⟩), .agg (av A n c d), .slice Ab m cb] w fun r w' => r = .returned (.int .i64 (pCnt d bs p).1) ∧ Left o base g mb (pCnt d bs p).2 w w' := by
  obtain ⟨W0, hW0⟩ : ∃ W0, W0 = w.alloc (.cells (av A n c d) 45) := ⟨_, rfl⟩
  obtain ⟨gd, hgd⟩ : ∃ x, x = w.heap.size := ⟨_, rfl⟩
  have HKW0 : Hid (Keeps (fun _ => False) w W0) := by show Keeps _ _ _; rw [hW0]; exact (Keeps.refl _ _).alloc _
  have hD : Blk W0 gd 45 (av A n c d) := by rw [hW0, hgd]; exact Blk.new _ _ _
  obtain ⟨e, he⟩ : ∃ e, (pInt d.d m p).1 = e := ⟨_, rfl⟩
  obtain ⟨q, hq⟩ : ∃ q, (pInt d.d m p).2 = q := ⟨_, rfl⟩
  have hmi := mint_ W0 (h.more HKW0.out) A n c d.d m hd (hL.more HKW0.out) hrow hlen
  have hlenq : (hadP q.2 Bn).length ≤ 100010 := by
    have := (pInt_len d.d m p).2 Bn
    rw [hq] at this
    have := hlen Bn
    omega
  rw [he, hq] at hmi
  have hpc : pCnt d bs p = if e = 0 then (0, (q.1, pc q.2 Bn (hadP q.2 Bn ++ bs))) else (e, q) := by
    unfold pCnt
    rw [hm, he, hq, hBn]
    simp only [Int.toNat_natCast]
    split
    · rfl
    · rw [← he, ← hq]
  rw [hpc]
  unfold dv at hmi
  unfold av at hD hW0 ⊢
  rw [hK, hBn] at hD hW0 ⊢
  have HMI := Lib.hid hmi
  have HD := Lib.hid hD
  have HOD : Hid (o gd = none) := by
    show _ = _
    cases ho : o gd with
    | none => rfl
    | some x =>
      have := (h.lt gd x ho).2
      omega
  have HBA : Hid (∀ b o', Ab = some ⟨b, o', none⟩ → bs ≠ [] → o b = none) := hE
  have HLB0 := Lib.hid (hl.keeps HKW0.out fun _ _ _ => id)
  have HBL := Lib.hid hm
  have HMM : Hid (m ≤ 1000) := hm1
  have HBN : Hid (Bn < 60001) := by show Bn < 60001; omega
  have HLQ := Lib.hid hlenq
  have k5 : W0.cell? ⟨gd, 5, none⟩ = some (.int .u8 4) := HD.out.cell 5
  have k0 : W0.cell? ⟨gd, 0, none⟩ = some (.int .u8 d.d.K) := HD.out.cell 0
  have k1 : W0.cell? ⟨gd, 1, none⟩ = some (.int .i64 d.d.B) := HD.out.cell 1
  have k2 : W0.cell? ⟨gd, 2, none⟩ = some (.slice A n c) := HD.out.cell 2
  have k3 : W0.cell? ⟨gd, 3, none⟩ = some (.int .i64 d.d.le) := HD.out.cell 3
  have k4 : W0.cell? ⟨gd, 4, none⟩ = some (.int .i64 d.d.bi) := HD.out.cell 4
  have HBW : Hid (w.heap.size ≤ W0.heap.size) := HKW0.out.size
  clear h hD hl hm hm1 hlen hrow hB hK hBn hE hmi hlenq hpc he hq hd hL
  go_enter Tryz.func12, Tryz.ntmps12
  go_upto_region 1 with fail
  rw [← hW0, ← hgd]
  clear hW0 hgd
  go_wp2_with fail
  refine HMI.out.mono ?_
  rintro r w1 ⟨rfl, o1, Ar1, cr1, fa1, fc1, hmd1, hk1, hs1⟩
  have HS1 : Hid (∀ k, o1 k ≠ none → o k ≠ none ∨ W0.heap.size ≤ k) := hs1
  have HK01 : Hid (Keeps (fun k => o k ≠ none) w w1) := (HKW0.out.mono fun _ _ hf => hf.elim).trans hk1
  have HKI := Lib.hid hk1
  by_cases h0 : e = 0
  · subst h0
    have HEND : Hid (∀ w', Left o1 base g mb (q.1, pc q.2 Bn (hadP q.2 Bn ++ bs)) w1 w' → Left o base g mb (q.1, pc q.2 Bn (hadP q.2 Bn ++ bs)) w w') := fun w' hl => hl.trans HK01.out fun k hk => (HS1.out k hk).imp id (Nat.le_trans HBW.out)
    have HD2 := Lib.hid (HD.out.keeps HKI.out (fun hh => hh HOD.out))
    have HOD1 : Hid (o1 gd = none) := by
      show _ = _
      cases ho : o1 gd with
      | none => rfl
      | some x =>
        exfalso
        rcases HS1.out gd (by rw [ho]; simp) with e1 | e1
        · exact e1 HOD.out
        · have := HD.out.lt
          omega
    have HLI0 : Hid (Lies w1 Ab bs) := by
      by_cases hb0 : bs = []
      · exact .inl hb0
      · exact HLB0.out.keeps HKI.out fun b o' e hh => hh (HBA.out b o' e hb0)
    have HMD1 := Lib.hid hmd1
    clear HMI HD k0 k1 k2 k3 k4 k5 HBA HLB0 hmd1 hk1 hs1 HKI HS1 HK01 HOD
    obtain ⟨A0, c0, hoh, hlb, hlk⟩ := HMD1.out.had Bn
    obtain ⟨o, rfl⟩ : ∃ x, x = o1 := ⟨_, rfl⟩
    obtain ⟨p, rfl⟩ : ∃ x, x = q := ⟨_, rfl⟩
    obtain ⟨w, rfl⟩ : ∃ x, x = w1 := ⟨_, rfl⟩
    have HKW : Hid (Keeps (fun _ => False) w w) := Keeps.refl _ _
    have HM0 := HMD1
    have HM := HMD1
    have HD : Hid (Blk w gd 45 #[.int .u8 d.d.K, .int .i64 d.d.B, .slice A n c, .int .i64 d.d.le, .int .i64 d.d.bi, .int .u8 4, .int .i64 Bn, .int .u8 d.S]) := HD2
    have HNG : Hid (∀ k x, o k = some x → x ≠ 0 → ¬ k = g ∧ ¬ k = gd) := fun k y hy h0 => ⟨fun e => by rw [e, HM0.out.og] at hy; injection hy with hy; exact h0 hy.symm, fun e => by rw [e, HOD1.out] at hy; cases hy⟩
    have HGD : Hid (gd < w.heap.size) := HD.out.lt
    have HLK : Hid (∀ W, Keeps (fun _ => False) w W → (Instr.lookup 28 (.map (some mb)) (.int .i64 (Bn : Int)) false).run Tryz.prog W = .ok (.slice A0 (hadP p.2 Bn).length c0) W) := fun W k => hlk HBN.out W (k.mono fun _ _ hf => hf.elim)
    have HOH := Lib.hid hoh
    have HLI : Hid (∀ W, Keeps (fun _ => False) w W → Lies W Ab bs) := fun W k => HLI0.out.keeps k fun _ _ _ => id
    have HLN : Hid ((hadP p.2 Bn).length + m ≤ 1000000) := by show _ ≤ _; have := HLQ.out; have := HMM.out; omega
    obtain ⟨h0, hh0⟩ : ∃ n, (hadP p.2 Bn).length = n := ⟨_, rfl⟩
    have HLH := Lib.hid hh0
    rw [hh0] at HLK HOH HLN
    have HBS : Hid (base ≤ w.heap.size) := by show base ≤ _; have := HM0.out.lt g 0 HM0.out.og; omega
    clear hoh hlb hlk hh0 HMD1 HD2 HLI0
    go_upto_region 13 with fail
    refine wp_region_noPanic ?_
    refine wp_region_held_drew (S := fun w' => Keeps (fun k => ¬ k = g ∧ ¬ k = gd) w w') (by kernel_rfl) (((Keeps.refl (fun _ => False) _).drewN 1).mono fun _ _ hf => hf.elim) (fun hHeld => ?_)
    have HKD : Hid (Keeps (fun _ => False) w w.drew) := (Keeps.refl _ _).drewN 1
    have hHeld2 : Keeps (fun k => ¬ k = g ∧ ¬ k = gd) w w.drew := hHeld
    clear hHeld
    generalize w.drew = wd at hHeld2 HKD ⊢
    have hHeld := hHeld2
    clear hHeld2
    have HKC := Lib.hid (HKW.out.trans HKD.out)
    clear HKD
    refine wpAnyH_take (i := 0) (v := ?vz0x78) rfl (by kernel_rfl) (by kernel_rfl) (by kernel_rfl) (fun _ _ _ h => h) (Or.inl ⟨by rfl, ?yz0x78⟩) hHeld ?rz0x78
    case yz0x78 => (intro w' hSw; go_simp; try with_reducible rfl)
    simp only [Act.put, List.getElem_toArray, List.getElem_cons_succ, List.getElem_cons_zero, List.setIfInBounds_toArray, List.set_cons_zero, List.set_cons_succ]
    refine wpAnyH_take (i := 1) (v := ?vz1x79) rfl (by kernel_rfl) (by kernel_rfl) (by kernel_rfl) (fun _ _ _ h => h) (Or.inl ⟨by rfl, ?yz1x79⟩) hHeld ?rz1x79
    case yz1x79 => (intro w' hSw; go_simp; try with_reducible rfl)
    simp only [Act.put, List.getElem_toArray, List.getElem_cons_succ, List.getElem_cons_zero, List.setIfInBounds_toArray, List.set_cons_zero, List.set_cons_succ]
    refine wpAnyH_take (i := 2) (v := ?vz2x80) rfl (by kernel_rfl) (by kernel_rfl) (by kernel_rfl) (fun _ _ _ h => h) (Or.inl ⟨by rfl, ?yz2x80⟩) hHeld ?rz2x80
    case yz2x80 => (intro w' hSw; go_simp; try with_reducible rfl)
    simp only [Act.put, List.getElem_toArray, List.getElem_cons_succ, List.getElem_cons_zero, List.setIfInBounds_toArray, List.set_cons_zero, List.set_cons_succ]
    refine wpAnyH_take (i := 3) (v := ?vz3x81) rfl (by kernel_rfl) (by kernel_rfl) (by kernel_rfl) (fun _ _ _ h => h) (Or.inl ⟨by rfl, ?yz3x81⟩) hHeld ?rz3x81
    case yz3x81 => (intro w' hSw; have hc1 := (HM.out.blk.keeps hSw (fun h => h.1 rfl)).cell 1; go_simp; try with_reducible rfl)
    simp only [Act.put, List.getElem_toArray, List.getElem_cons_succ, List.getElem_cons_zero, List.setIfInBounds_toArray, List.set_cons_zero, List.set_cons_succ]
    refine wpAnyH_take (i := 4) (v := ?vz4x82) rfl (by kernel_rfl) (by kernel_rfl) (by kernel_rfl) (fun _ _ _ h => h) (Or.inl ⟨by rfl, ?yz4x82⟩) hHeld ?rz4x82
    case yz4x82 => (intro w' hSw; go_simp; try with_reducible rfl)
    simp only [Act.put, List.getElem_toArray, List.getElem_cons_succ, List.getElem_cons_zero, List.setIfInBounds_toArray, List.set_cons_zero, List.set_cons_succ]
    refine wpAnyH_take (i := 5) (v := ?vz5x83) rfl (by kernel_rfl) (by kernel_rfl) (by kernel_rfl) (fun _ _ _ h => h) (Or.inl ⟨by rfl, ?yz5x83⟩) hHeld ?rz5x83
    case yz5x83 => (intro w' hSw; have hd6 := (HD.out.keeps hSw (fun h => h.2 rfl)).cell 6; go_simp; try with_reducible rfl)
    simp only [Act.put, List.getElem_toArray, List.getElem_cons_succ, List.getElem_cons_zero, List.setIfInBounds_toArray, List.set_cons_zero, List.set_cons_succ]
    refine wpAnyH_take (i := 7) (v := ?vz7x84) rfl (by kernel_rfl) (by kernel_rfl) (by kernel_rfl) (fun _ _ _ h => h) (Or.inl ⟨by rfl, ?yz7x84⟩) hHeld ?rz7x84
    case yz7x84 => (intro w' hSw; go_simp; try with_reducible rfl)
    simp only [Act.put, List.getElem_toArray, List.getElem_cons_succ, List.getElem_cons_zero, List.setIfInBounds_toArray, List.set_cons_zero, List.set_cons_succ]
    refine wpAnyH_take (i := 8) (v := ?vz8x85) rfl (by kernel_rfl) (by kernel_rfl) (by kernel_rfl) (fun _ _ _ h => h) (Or.inl ⟨by rfl, ?yz8x85⟩) hHeld ?rz8x85
    case yz8x85 => (intro w' hSw; go_simp; try with_reducible rfl)
    simp only [Act.put, List.getElem_toArray, List.getElem_cons_succ, List.getElem_cons_zero, List.setIfInBounds_toArray, List.set_cons_zero, List.set_cons_succ]
    refine wpAnyH_take (i := 9) (v := ?vz9x86) rfl (by kernel_rfl) (by kernel_rfl) (by kernel_rfl) (fun _ _ _ h => h) (Or.inl ⟨by rfl, ?yz9x86⟩) hHeld ?rz9x86
    case yz9x86 => (intro w' hSw; go_simp; try with_reducible rfl)
    simp only [Act.put, List.getElem_toArray, List.getElem_cons_succ, List.getElem_cons_zero, List.setIfInBounds_toArray, List.set_cons_zero, List.set_cons_succ]
    refine wpAnyH_take (i := 10) (v := ?vz10x87) rfl (by kernel_rfl) (by kernel_rfl) (by kernel_rfl) (fun _ _ _ h => h) (Or.inl ⟨by rfl, ?yz10x87⟩) hHeld ?rz10x87
    case yz10x87 => (intro w' hSw; have hc1 := (HM.out.blk.keeps hSw (fun h => h.1 rfl)).cell 1; go_simp; try with_reducible rfl)
    simp only [Act.put, List.getElem_toArray, List.getElem_cons_succ, List.getElem_cons_zero, List.setIfInBounds_toArray, List.set_cons_zero, List.set_cons_succ]
    refine wpAnyH_take (i := 11) (v := ?vz11x88) rfl (by kernel_rfl) (by kernel_rfl) (by kernel_rfl) (fun _ _ _ h => h) (Or.inl ⟨by rfl, ?yz11x88⟩) hHeld ?rz11x88
    case yz11x88 => (intro w' hSw; go_simp; try with_reducible rfl)
    simp only [Act.put, List.getElem_toArray, List.getElem_cons_succ, List.getElem_cons_zero, List.setIfInBounds_toArray, List.set_cons_zero, List.set_cons_succ]
    refine wpAnyH_take (i := 12) (v := ?vz12x89) rfl (by kernel_rfl) (by kernel_rfl) (by kernel_rfl) (fun _ _ _ h => h) (Or.inl ⟨by rfl, ?yz12x89⟩) hHeld ?rz12x89
    case yz12x89 => (intro w' hSw; have hd6 := (HD.out.keeps hSw (fun h => h.2 rfl)).cell 6; go_simp; try with_reducible rfl)
    simp only [Act.put, List.getElem_toArray, List.getElem_cons_succ, List.getElem_cons_zero, List.setIfInBounds_toArray, List.set_cons_zero, List.set_cons_succ]
    refine wpAnyH_take (i := 15) (v := ?vz15x90) rfl (by kernel_rfl) (by kernel_rfl) (by kernel_rfl) (fun _ _ _ h => h) (Or.inl ⟨by rfl, ?yz15x90⟩) hHeld ?rz15x90
    case yz15x90 => (intro w' hSw; go_simp; try with_reducible rfl)
    simp only [Act.put, List.getElem_toArray, List.getElem_cons_succ, List.getElem_cons_zero, List.setIfInBounds_toArray, List.set_cons_zero, List.set_cons_succ]
    refine wpAnyH_ready (rs := [6, 13]) (by kernel_rfl) (by simp) ?_
    refine AllReadyH.cons rfl (fun KR hK => ?_) (AllReadyH.cons rfl (fun KR hK => ?_) AllReadyH.nil)
    · go_simp
      have hk := (Keeps.refl (fun _ => False) wd).alloc (.cells #[] 5)
      have HOE := Lib.hid (Ap.own_empty wd base (Nat.le_trans HBS.out HKC.out.size))
      have HBG := Lib.hid HKC.out.size
      replace HKC := Lib.hid (HKC.out.trans hk)
      generalize wd.alloc (.cells #[] 5) = wb at *
      obtain ⟨bq, hbq⟩ : ∃ q, wd.heap.size = q := ⟨_, rfl⟩
      rw [hbq] at HOE HBG ⊢
      clear hbq
      try dsimp only
      refine hK.out _ _ (hHeld.trans (hk.mono fun _ _ hf => hf.elim)) (fun hHeld => ?_)
      clear hK KR
      try simp only [Act.put, List.getElem_toArray, List.getElem_cons_succ, List.getElem_cons_zero, List.setIfInBounds_toArray, List.set_cons_zero, List.set_cons_succ]
      clear hk
      refine wpAnyH_ready (rs := [13]) (by kernel_rfl) (by simp) ?_
      refine AllReadyH.cons rfl (fun KR hK => ?_) AllReadyH.nil
      have hlk := HLK.out _ HKC.out
      go_simp
      try dsimp only
      refine hK.out _ _ hHeld (fun hHeld => ?_)
      clear hK KR
      try simp only [Act.put, List.getElem_toArray, List.getElem_cons_succ, List.getElem_cons_zero, List.setIfInBounds_toArray, List.set_cons_zero, List.set_cons_succ]
      refine wpAnyH_ready (rs := [14]) (by kernel_rfl) (by simp) ?_
      refine AllReadyH.cons rfl (fun KR hK => ?_) AllReadyH.nil
      refine Ap.step_app rfl (.tmp 58) (.tmp 65) rfl base 0 h0 c0 (.slice (some ⟨bq, 0, none⟩) 0 0) [] (hadP p.2 Bn) A0 rfl HOE.out rfl (Lies.of_own (own_keeps HOH.out HKC.out fun _ _ => id)) HLH.out (by have := HLN.out; omega) (Nat.le_trans HBS.out HKC.out.size) ?_
      intro v' w2 ho hg hat
      rw [List.nil_append, Nat.zero_add] at ho
      obtain ⟨A1, c1, rfl, _⟩ := own_form ho
      have HO1 := Lib.hid ho
      have HK1 := Lib.hid (Keeps.grown (HKC.out) hg (fun k hk => .inr (by have hk2 : bq = k := (by simpa [Value.ownBlock] using hk); have := HBG.out; omega)))
      have HAT1 : Hid (∀ b, (Value.slice A1 h0 c1).ownBlock = some b → w.heap.size ≤ b) := fun b hb => by
        rcases hat with e | e
        · rw [e] at hb
          have hb2 : bq = b := (by simpa [Value.ownBlock] using hb)
          have := HBG.out
          omega
        · rw [e] at hb
          injection hb with hb
          rw [← hb]
          exact HKC.out.size
      have hst : Keeps (fun k => ¬ k = g ∧ ¬ k = gd) _ w2 := Keeps.grown (Keeps.refl _ _) hg (fun k hk => .inl (by have hk2 : bq = k := (by simpa [Value.ownBlock] using hk); have h1 := HBG.out; have h2 := HGD.out; have h3 := (HM0.out.lt g 0 HM0.out.og).2; omega))
      clear ho hg hat
      try dsimp only
      refine hK.out _ _ (hHeld.trans hst) (fun hHeld => ?_)
      clear hK KR
      try simp only [Act.put, List.getElem_toArray, List.getElem_cons_succ, List.getElem_cons_zero, List.setIfInBounds_toArray, List.set_cons_zero, List.set_cons_succ]
      clear hst
      refine wpAnyH_ready (rs := [16]) (by kernel_rfl) (by simp) ?_
      refine AllReadyH.cons rfl (fun KR hK => ?_) AllReadyH.nil
      refine Ap.step_app rfl (.tmp 66) (.tmp 67) rfl base _ m cb (.slice A1 h0 c1) (hadP p.2 Bn) bs Ab rfl HO1.out rfl (HLI.out _ HK1.out) HBL.out (by have := HLN.out; omega) (Nat.le_trans HBS.out HK1.out.size) ?_
      intro v' w3 ho hg hat
      obtain ⟨A2, c2, rfl, _⟩ := own_form ho
      have HO2 := Lib.hid ho
      have HK2 := Lib.hid (Keeps.grown HK1.out hg (fun k hk => .inr (HAT1.out k hk)))
      have HAT : Hid (∀ b, (Value.slice A2 (h0 + m) c2).ownBlock = some b → o b = some (3 + Bn) ∨ w.heap.size ≤ b) := fun b hb => by
        rcases hat with e | e
        · exact .inr (HAT1.out b (e ▸ hb))
        · rw [e] at hb
          injection hb with hb
          exact .inr (by rw [← hb]; exact HK1.out.size)
      have hst : Keeps (fun k => ¬ k = g ∧ ¬ k = gd) _ w3 := Keeps.grown (Keeps.refl _ _) hg (fun k hk => .inl (by have h1 := HAT1.out k hk; have h2 := HGD.out; have h3 := (HM0.out.lt g 0 HM0.out.og).2; omega))
      clear ho hg hat
      try dsimp only
      refine hK.out _ _ (hHeld.trans hst) (fun hHeld => ?_)
      clear hK KR
      try simp only [Act.put, List.getElem_toArray, List.getElem_cons_succ, List.getElem_cons_zero, List.setIfInBounds_toArray, List.set_cons_zero, List.set_cons_succ]
      clear hst
      obtain ⟨w4, hrun, hmd, hk3, hk4⟩ := HM0.out.put HBN.out (HK2.out.mono (S' := fun k => o k = some (3 + Bn)) fun _ _ hf => hf.elim) HO2.out (by rw [List.length_append, HBL.out, HLH.out]) HAT.out
      have HMD := Lib.hid hmd
      have HK3 := Lib.hid hk3
      clear hmd hk3
      refine wpAnyH_ready (rs := [17]) (by kernel_rfl) (by simp) ?_
      refine AllReadyH.cons rfl (fun KR hK => ?_) AllReadyH.nil
      go_simp
      try dsimp only
      refine hK.out _ _ (hHeld.trans (hk4.mono fun k _ e => by subst e; exact HNG.out _ 1 HM0.out.om (by omega))) (fun hHeld => ?_)
      clear hK KR hk4
      try simp only [Act.put, List.getElem_toArray, List.getElem_cons_succ, List.getElem_cons_zero, List.setIfInBounds_toArray, List.set_cons_zero, List.set_cons_succ]
      refine wpAnyH_done (by kernel_rfl) ?_ _
      clear hHeld
      refine NoPanic.normal ?_
      go_wp2
      go_ret
      exact ⟨rfl, HEND.out _ ⟨_, _, _, _, _, HMD.out, HK3.out.mono (fun k _ e => by rcases e with e | e; (rw [e]; simp); (rw [e, HM0.out.om]; simp)), fun k hk => lab_sub HAT.out k hk⟩⟩
    · have hlk := HLK.out _ HKC.out
      go_simp
      try dsimp only
      refine hK.out _ _ hHeld (fun hHeld => ?_)
      clear hK KR
      try simp only [Act.put, List.getElem_toArray, List.getElem_cons_succ, List.getElem_cons_zero, List.setIfInBounds_toArray, List.set_cons_zero, List.set_cons_succ]
      refine wpAnyH_ready (rs := [6]) (by kernel_rfl) (by simp) ?_
      refine AllReadyH.cons rfl (fun KR hK => ?_) AllReadyH.nil
      go_simp
      have hk := (Keeps.refl (fun _ => False) wd).alloc (.cells #[] 5)
      have HOE := Lib.hid (Ap.own_empty wd base (Nat.le_trans HBS.out HKC.out.size))
      have HBG := Lib.hid HKC.out.size
      replace HKC := Lib.hid (HKC.out.trans hk)
      generalize wd.alloc (.cells #[] 5) = wb at *
      obtain ⟨bq, hbq⟩ : ∃ q, wd.heap.size = q := ⟨_, rfl⟩
      rw [hbq] at HOE HBG ⊢
      clear hbq
      try dsimp only
      refine hK.out _ _ (hHeld.trans (hk.mono fun _ _ hf => hf.elim)) (fun hHeld => ?_)
      clear hK KR
      try simp only [Act.put, List.getElem_toArray, List.getElem_cons_succ, List.getElem_cons_zero, List.setIfInBounds_toArray, List.set_cons_zero, List.set_cons_succ]
      clear hk
      refine wpAnyH_ready (rs := [14]) (by kernel_rfl) (by simp) ?_
      refine AllReadyH.cons rfl (fun KR hK => ?_) AllReadyH.nil
      refine Ap.step_app rfl (.tmp 58) (.tmp 65) rfl base 0 h0 c0 (.slice (some ⟨bq, 0, none⟩) 0 0) [] (hadP p.2 Bn) A0 rfl HOE.out rfl (Lies.of_own (own_keeps HOH.out HKC.out fun _ _ => id)) HLH.out (by have := HLN.out; omega) (Nat.le_trans HBS.out HKC.out.size) ?_
      intro v' w2 ho hg hat
      rw [List.nil_append, Nat.zero_add] at ho
      obtain ⟨A1, c1, rfl, _⟩ := own_form ho
      have HO1 := Lib.hid ho
      have HK1 := Lib.hid (Keeps.grown (HKC.out) hg (fun k hk => .inr (by have hk2 : bq = k := (by simpa [Value.ownBlock] using hk); have := HBG.out; omega)))
      have HAT1 : Hid (∀ b, (Value.slice A1 h0 c1).ownBlock = some b → w.heap.size ≤ b) := fun b hb => by
        rcases hat with e | e
        · rw [e] at hb
          have hb2 : bq = b := (by simpa [Value.ownBlock] using hb)
          have := HBG.out
          omega
        · rw [e] at hb
          injection hb with hb
          rw [← hb]
          exact HKC.out.size
      have hst : Keeps (fun k => ¬ k = g ∧ ¬ k = gd) _ w2 := Keeps.grown (Keeps.refl _ _) hg (fun k hk => .inl (by have hk2 : bq = k := (by simpa [Value.ownBlock] using hk); have h1 := HBG.out; have h2 := HGD.out; have h3 := (HM0.out.lt g 0 HM0.out.og).2; omega))
      clear ho hg hat
      try dsimp only
      refine hK.out _ _ (hHeld.trans hst) (fun hHeld => ?_)
      clear hK KR
      try simp only [Act.put, List.getElem_toArray, List.getElem_cons_succ, List.getElem_cons_zero, List.setIfInBounds_toArray, List.set_cons_zero, List.set_cons_succ]
      clear hst
      refine wpAnyH_ready (rs := [16]) (by kernel_rfl) (by simp) ?_
      refine AllReadyH.cons rfl (fun KR hK => ?_) AllReadyH.nil
      refine Ap.step_app rfl (.tmp 66) (.tmp 67) rfl base _ m cb (.slice A1 h0 c1) (hadP p.2 Bn) bs Ab rfl HO1.out rfl (HLI.out _ HK1.out) HBL.out (by have := HLN.out; omega) (Nat.le_trans HBS.out HK1.out.size) ?_
      intro v' w3 ho hg hat
      obtain ⟨A2, c2, rfl, _⟩ := own_form ho
      have HO2 := Lib.hid ho
      have HK2 := Lib.hid (Keeps.grown HK1.out hg (fun k hk => .inr (HAT1.out k hk)))
      have HAT : Hid (∀ b, (Value.slice A2 (h0 + m) c2).ownBlock = some b → o b = some (3 + Bn) ∨ w.heap.size ≤ b) := fun b hb => by
        rcases hat with e | e
        · exact .inr (HAT1.out b (e ▸ hb))
        · rw [e] at hb
          injection hb with hb
          exact .inr (by rw [← hb]; exact HK1.out.size)
      have hst : Keeps (fun k => ¬ k = g ∧ ¬ k = gd) _ w3 := Keeps.grown (Keeps.refl _ _) hg (fun k hk => .inl (by have h1 := HAT1.out k hk; have h2 := HGD.out; have h3 := (HM0.out.lt g 0 HM0.out.og).2; omega))
      clear ho hg hat
      try dsimp only
      refine hK.out _ _ (hHeld.trans hst) (fun hHeld => ?_)
      clear hK KR
      try simp only [Act.put, List.getElem_toArray, List.getElem_cons_succ, List.getElem_cons_zero, List.setIfInBounds_toArray, List.set_cons_zero, List.set_cons_succ]
      clear hst
      obtain ⟨w4, hrun, hmd, hk3, hk4⟩ := HM0.out.put HBN.out (HK2.out.mono (S' := fun k => o k = some (3 + Bn)) fun _ _ hf => hf.elim) HO2.out (by rw [List.length_append, HBL.out, HLH.out]) HAT.out
      have HMD := Lib.hid hmd
      have HK3 := Lib.hid hk3
      clear hmd hk3
      refine wpAnyH_ready (rs := [17]) (by kernel_rfl) (by simp) ?_
      refine AllReadyH.cons rfl (fun KR hK => ?_) AllReadyH.nil
      go_simp
      try dsimp only
      refine hK.out _ _ (hHeld.trans (hk4.mono fun k _ e => by subst e; exact HNG.out _ 1 HM0.out.om (by omega))) (fun hHeld => ?_)
      clear hK KR hk4
      try simp only [Act.put, List.getElem_toArray, List.getElem_cons_succ, List.getElem_cons_zero, List.setIfInBounds_toArray, List.set_cons_zero, List.set_cons_succ]
      refine wpAnyH_done (by kernel_rfl) ?_ _
      clear hHeld
      refine NoPanic.normal ?_
      go_wp2
      go_ret
      exact ⟨rfl, HEND.out _ ⟨_, _, _, _, _, HMD.out, HK3.out.mono (fun k _ e => by rcases e with e | e; (rw [e]; simp); (rw [e, HM0.out.om]; simp)), fun k hk => lab_sub HAT.out k hk⟩⟩
  · have h0e : (e == 0) = false := by simpa using h0
    have HL := Lib.hid (show Left o base g mb q w w1 from ⟨o1, Ar1, cr1, fa1, fc1, hmd1, HK01.out, fun k hk => (HS1.out k hk).imp id (Nat.le_trans HBW.out)⟩)
    clear hmd1 hk1 hs1
    go_wp2
    go_ret
    first
      | exact ⟨rfl, HL.out⟩
      | (rw [if_neg h0]; exact ⟨rfl, HL.out⟩)
end
end Go.Proofs.YtgaofnmgdefdcaaGreatDoor.Qm
