/- lens: End: what is left of the row, or in a block. -/
/- The fixed fact of layer 11. The condition: strconv's table of tens reads as its text lays it. -/
import Derived.Test.YtgaofnmgdefdcaaGreatDoorJLnActLnNew
import Derived.Test.YtgaofnmgdefdcaaGreatDoorJQlStpQlSrt

namespace Go.Proofs.YtgaofnmgdefdcaaGreatDoor.Le
open Go.RowKit Go.Proofs.YtgaofnmgdefdcaaGreatDoor.Gen Go.Proofs.YtgaofnmgdefdcaaGreatDoor.Mp Go.Proofs.YtgaofnmgdefdcaaGreatDoor.Cm Go.Proofs.YtgaofnmgdefdcaaGreatDoor.Hr Go.Proofs.YtgaofnmgdefdcaaGreatDoor.Hn Go.Proofs.YtgaofnmgdefdcaaGreatDoor.Hk Go.Proofs.YtgaofnmgdefdcaaGreatDoor.Ln Go.Proofs.YtgaofnmgdefdcaaGreatDoor.Ds Go.Proofs.YtgaofnmgdefdcaaGreatDoor.Ky Go.Proofs.YtgaofnmgdefdcaaGreatDoor.Wr Go.Proofs.YtgaofnmgdefdcaaGreatDoor.Ir Go.Proofs.YtgaofnmgdefdcaaGreatDoor.Br Go.Proofs.YtgaofnmgdefdcaaGreatDoor.Qh Go.Proofs.YtgaofnmgdefdcaaGreatDoor.Qs Go.Proofs.YtgaofnmgdefdcaaGreatDoor.Qf Go.Proofs.YtgaofnmgdefdcaaGreatDoor.Qc Go.Proofs.YtgaofnmgdefdcaaGreatDoor.Qk

theorem key_cell {w : World} {base n c j N : Nat} {A : Option Addr} {val : Nat → Option Value} (h : w.ownsRow base 3 1 (.slice A n c) n ((numZ val N).map encZ)) (hn : (nums val N).length = n) (hj : j < n) :
    ∃ g, A = some ⟨g, 0, none⟩ ∧ w.cell? ⟨g, j, none⟩ = some (.int .i64 (((nums val N).getD j 0 : Nat) : Int)) ∧ base ≤ g ∧ g < w.heap.size := by
  rcases h.2 with ⟨h1, hn1⟩ | ⟨g, cap, cur, hv, hb', hh, _⟩
  · omega
  · injection hv with hv _ _
    subst hv
    have hlt := (show Blk w g 3 cur from hh).lt
    have hat : ((numZ val N).map encZ)[j]? = some (.int .i64 (((nums val N).getD j 0 : Nat) : Int)) := by
      unfold numZ
      rw [List.map_map, List.getElem?_map, List.getD_eq_getElem?_getD, List.getElem?_eq_getElem (by omega)]
      rfl
    have hc := h.cells (g := g) rfl j _ hat
    rw [add_none, Nat.zero_add] at hc
    exact ⟨g, rfl, hc, hb', hlt⟩
theorem field_ir (g' : Nat) (w : World) : (Instr.field 110 (.agg #[.pointer (some ⟨g', 0, none⟩)]) 0).run Tryz.prog w = .ok (.pointer (some ⟨g', 0, none⟩)) w := by
  simp [go_sem, Instr.field, asAgg]
/-- What End answers. -/
def EndR (s : BS) (G : Rs) (e E : Int) : Prop :=
  (e ≠ 0 ∧ E = e) ∨ (e = 0 ∧ s.fin ≠ 0 ∧ E = s.fin) ∨ (e = 0 ∧ s.fin = 0 ∧ ((E = 0 ∧ ∀ i r, G i = some r → r.fin = 0) ∨ ∃ i r, G i = some r ∧ r.fin ≠ 0 ∧ E = r.fin))

set_option maxHeartbeats 8000000 in
set_option maxRecDepth 100000 in
theorem end_z {B g N : Nat} {F : Nat → Prop} {s : BS} {G : Rs} {er : Int} (w : World) (h : Lz B g F s G N er w) :
    Calls Tryz.prog 27 #[.pointer (some ⟨g, 0, none⟩)] w fun r w' => ∃ E, r = .returned (.int .i64 E) ∧ EndR s G er E ∧ Keeps (fun _ => False) w w' := by
  have HE := Lib.hid (err_ w h)
  by_cases h0 : er = 0
  · subst h0
    obtain ⟨o, br, bb, mb, mc, P, hln, hF⟩ := h
    have hc0 := hln.blk.cell 0
    have hc1 := hln.blk.cell 1
    simp only [List.getElem?_toArray, List.getElem?_cons_zero, List.getElem?_cons_succ] at hc0 hc1
    have HBE := Lib.hid (Br.end_ br s bb w hln.row)
    have HLN := Lib.hid hln
    have HR0 : Hid (∀ E, s.fin ≠ 0 → E = s.fin → EndR s G 0 E) := fun E h1 h2 => .inr (.inl ⟨rfl, h1, h2⟩)
    have HR1 : Hid (s.fin = 0 → (∀ i r, G i = some r → r.fin = 0) → EndR s G 0 0) := fun h1 h2 => .inr (.inr ⟨rfl, h1, .inl ⟨rfl, h2⟩⟩)
    have HR2 : Hid (∀ i r, s.fin = 0 → G i = some r → r.fin ≠ 0 → EndR s G 0 r.fin) := fun i r h1 h2 h3 => .inr (.inr ⟨rfl, h1, .inr ⟨i, r, h2, h3, rfl⟩⟩)
    generalize EndR s G 0 = R at HR0 HR1 HR2 ⊢
    obtain ⟨fi, hfi⟩ : ∃ fi, s.fin = fi := ⟨_, rfl⟩
    rw [hfi] at HBE HR0 HR1 HR2
    clear hln hF hfi
    go_enter Tryz.func27, Tryz.ntmps27
    go_wp2_with fail
    refine HE.out.mono ?_
    rintro r w1 ⟨rfl, hw1⟩
    rw [hw1]
    clear HE hw1
    go_wp2_with fail
    refine HBE.out.mono ?_
    rintro r w1 ⟨rfl, nd, rfl⟩
    clear HBE
    have HK1 : Hid (Keeps (fun _ => False) w (w.drewN nd)) := (Keeps.refl _ _).drewN nd
    by_cases hf : fi = 0
    · subst hf
      have HK := Lib.hid keysB
      have HLN1 := Lib.hid (HLN.out.keeps HK1.out fun _ _ => id)
      have hk2 := HK1.out.alloc (.cells #[.map (some mb)] 105)
      have HS := Lib.hid (sortedB int_ks (fun i _ => rfl) (by omega) (w.drewN nd).heap.size mb (fun i => (G i).map fun _ => rd (P i).2) ((w.drewN nd).alloc (.cells #[.map (some mb)] 105)) (by simp) ((Blk.new (w.drewN nd) 105 #[.map (some mb)]).cell 0) (HLN.out.map.keeps hk2 id))
      have HK2 := Lib.hid hk2
      obtain ⟨l, hl⟩ : ∃ l, nums (fun i => (G i).map fun _ => rd (P i).2) 60001 = l := ⟨_, rfl⟩
      obtain ⟨n, hn⟩ : ∃ n, l.length = n := ⟨_, rfl⟩
      have HL := Lib.hid hl
      have HN := Lib.hid hn
      rw [hl, hn] at HS
      clear hk2 hl hn
      go_wp2_with (first
        | (go_at_call 52; refine (HK.out (some mb) _).mono ?_; rintro r w1 ⟨rfl, rfl⟩)
        | (have H := HS; go_at_call 43; refine H.out.mono ?_; rintro r w2 ⟨v2, rfl, ho2, hk2⟩; obtain ⟨A2, c2, rfl, hle2⟩ := own_form ho2; have HK3 := Lib.hid (HK2.out.trans hk2); have HO := Lib.hid ho2; clear hk2 ho2 HS))
      have HN1 : Hid (n ≤ 60001) := by
        have h1 := HN.out
        rw [← HL.out] at h1
        have h2 : (nums (fun i => (G i).map fun _ => rd (P i).2) 60001).length ≤ 60001 := Nat.le_trans (List.length_filter_le _ _) (by simp)
        show n ≤ 60001
        omega
      clear hc0 HLN1
      go_loopw [28] (fun iv wr => ∃ j : Nat, iv = .int .i64 (j : Int) ∧ j ≤ n ∧ Hid (Keeps (fun _ => False) w2 wr ∧ ∀ k, k < j → ∀ r, G (l.getD k 0) = some r → r.fin = 0)) (fun iv _ => n - (intOf iv).toNat)
      case atStart => exact ⟨0, rfl, by omega, Keeps.refl _ _, fun k hk => by omega⟩
      case round =>
        obtain ⟨j, rfl, hj, HI⟩ := hrel
        by_cases hlt : j < n
        · obtain ⟨gk, rfl, hck, hbk, hlk⟩ := key_cell HO.out (by rw [HL.out]; exact HN.out) hlt
          rw [HL.out] at hck
          obtain ⟨i, hi⟩ : ∃ i, l.getD j 0 = i := ⟨_, rfl⟩
          rw [hi] at hck
          have hm : i ∈ l := by
            rw [← hi, List.getD_eq_getElem?_getD, List.getElem?_eq_getElem (by have := HN.out; omega)]
            exact List.getElem_mem _
          obtain ⟨hi1, hi2⟩ := nums_mem.1 (by rw [HL.out]; exact hm : i ∈ nums (fun i => (G i).map fun _ => rd (P i).2) 60001)
          obtain ⟨r, hr⟩ : ∃ r, G i = some r := by
            cases hG : G i with
            | none => exact absurd (by simp [hG]) hi2
            | some r => exact ⟨r, rfl⟩
          have hkW : Keeps (fun _ => False) w wr := HK3.out.trans HI.out.1
          have hlr := HLN.out.keeps hkW fun _ _ => id
          have hc1r : wr.cell? ⟨g, 1, none⟩ = some (.map (some mb)) := hlr.blk.cell 1
          have hckr : wr.cell? ⟨gk, j, none⟩ = some (.int .i64 (i : Int)) := (HI.out.1.cell (p := ⟨gk, j, none⟩) hlk id).trans hck
          have hlk2 := ((hlr.map.look int_ks Tryz.underlying105 (zero_ir wr) hi1).1 (rd (P i).2) (by rw [hr]; rfl)).1
          unfold ikv rd at hlk2
          obtain ⟨g', hg'⟩ : ∃ g', (P i).2 = g' := ⟨_, rfl⟩
          rw [hg'] at hlk2
          have HEN := Lib.hid (Wr.end_ (P i).2 r (P i).1 wr (hlr.rds i r hr).2.1)
          rw [hg'] at HEN
          have hfld := field_ir g'
          have hj0 : (0 : Int) ≤ (j : Int) := by omega
          have hj1 : (j : Int) < (n : Int) := by omega
          have hjw : IntKind.i64.wrap ((j : Int) + 1) = (j : Int) + 1 := IntWalk.i64_in _ (by have := HN1.out; omega)
          have HII := Lib.hid hi
          have HRI := Lib.hid hr
          clear hi hm hi1 hi2 hr hlr hg' hkW
          go_wp2_with fail
          refine HEN.out.mono ?_
          rintro r2 w5 ⟨rfl, nd2, rfl⟩
          clear HEN
          by_cases hf : r.fin = 0
          · rw [hf]
            go_wp2
            refine ⟨⟨j + 1, by go_num, by omega, HI.out.1.drewN nd2, fun k hk r3 h3 => ?_⟩, by simp [intOf]; omega⟩
            rcases Nat.lt_or_ge k j with hkj | hkj
            · exact HI.out.2 k hkj r3 h3
            · obtain rfl : k = j := by omega
              rw [HII.out, HRI.out] at h3
              injection h3 with h3
              rw [← h3]
              exact hf
          · have hne : (r.fin != 0) = true := by simpa using hf
            go_wp2
            go_ret
            exact ⟨r.fin, rfl, HR2.out i r trivial HRI.out hf, (HK3.out.trans HI.out.1).drewN nd2⟩
        · obtain rfl : j = n := by omega
          go_wp2
          go_ret
          refine ⟨0, rfl, HR1.out trivial fun i r hi => ?_, HK3.out.trans HI.out.1⟩
          have hm : i ∈ l := by
            rw [← HL.out, nums_mem]
            exact ⟨(HLN.out.rds i r hi).1, by rw [hi]; simp⟩
          obtain ⟨k, hk, hke⟩ := List.getElem_of_mem hm
          have h1 := HN.out
          refine HI.out.2 k (by omega) r ?_
          rw [List.getD_eq_getElem?_getD, List.getElem?_eq_getElem hk]
          rw [show (some l[k]).getD 0 = l[k] from rfl, hke]
          exact hi
    · have hne : (fi != 0) = true := by simpa using hf
      go_wp2
      go_ret
      exact ⟨fi, rfl, HR0.out fi hf rfl, HK1.out⟩
  · have hne : (er != 0) = true := by simpa using h0
    clear h
    go_enter Tryz.func27, Tryz.ntmps27
    go_wp2_with fail
    refine HE.out.mono ?_
    rintro r w1 ⟨rfl, rfl⟩
    go_wp2
    go_ret
    exact ⟨er, rfl, .inl ⟨h0, rfl⟩, Keeps.refl _ _⟩
end Go.Proofs.YtgaofnmgdefdcaaGreatDoor.Le

namespace Go.Proofs.YtgaofnmgdefdcaaGreatDoor.Le
open Go.RowKit Go.Proofs.YtgaofnmgdefdcaaGreatDoor.Gen Go.Proofs.YtgaofnmgdefdcaaGreatDoor.Mp Go.Proofs.YtgaofnmgdefdcaaGreatDoor.Cm Go.Proofs.YtgaofnmgdefdcaaGreatDoor.Hr Go.Proofs.YtgaofnmgdefdcaaGreatDoor.Hn Go.Proofs.YtgaofnmgdefdcaaGreatDoor.Hk Go.Proofs.YtgaofnmgdefdcaaGreatDoor.Ln Go.Proofs.YtgaofnmgdefdcaaGreatDoor.Ds Go.Proofs.YtgaofnmgdefdcaaGreatDoor.Ky Go.Proofs.YtgaofnmgdefdcaaGreatDoor.Wr Go.Proofs.YtgaofnmgdefdcaaGreatDoor.Ir Go.Proofs.YtgaofnmgdefdcaaGreatDoor.Br Go.Proofs.YtgaofnmgdefdcaaGreatDoor.Qh Go.Proofs.YtgaofnmgdefdcaaGreatDoor.Qs Go.Proofs.YtgaofnmgdefdcaaGreatDoor.Qf Go.Proofs.YtgaofnmgdefdcaaGreatDoor.Qc

theorem Tab_rise {B B' : Nat} {w : World} (h : Tab B w) (hB : B ≤ B') : Tab B' w := fun w' hb => h w' (hb.mono hB)
/-- A map of one row of bytes. -/
def oneV (k : Nat) (l : List Int) : Nat → Option (List Int) := fun i => if i = k then some l else none
def oneG (k : Nat) (r : RS) : Rs := fun i => if i = k then some r else none
theorem one_map {w : World} {b k n c : Nat} {A : Option Addr} {l : List Int} (hn : l.length = n) (h : IsF Tryz.prog 3 60001 ikl w b (putF (fun _ => none) k (.slice A n c))) :
    IsF Tryz.prog 3 60001 ikl w b (fun i => (oneV k l i).map fun l => .slice ((fun _ => A) i) l.length ((fun _ => c) i)) := by
  refine h.congr fun i _ => ?_
  unfold putF oneV
  by_cases hi : i = k
  · rw [if_pos hi, if_pos hi, ← hn]
    rfl
  · rw [if_neg hi, if_neg hi]
    rfl
theorem oneV_G (k : Nat) (l : List Int) : (fun i => (oneV k l i).map fun l => (⟨l, 0, 0⟩ : RS)) = oneG k ⟨l, 0, 0⟩ := by
  funext i
  unfold oneV oneG
  by_cases hi : i = k
  · rw [if_pos hi, if_pos hi]
    rfl
  · rw [if_neg hi, if_neg hi]
    rfl
theorem out300 {s s' : BS} {G G' : Rs} {n e : Int} (h : WithinR ⟨1, 3, [], 0, 0⟩ s G 0 (-2147483647) 2147483647 n e s' G') (hG : G 3 = some ⟨[129, 44], 0, 0⟩) : n = 300 ∧ e = 0 ∧ s' = s ∧ G' = ru G 3 ⟨[129, 44], 2, 0⟩ := by
  have e1 : RS.int ⟨[129, 44], 0, 0⟩ = (300, ⟨[129, 44], 2, 0⟩) := by rfl
  have hck : chkI ⟨1, 3, [], 0, 0⟩ = 0 := by decide
  rcases h with ⟨h0, _⟩ | ⟨_, s1, ⟨m, e1', hn, hc⟩, hs⟩
  · exact absurd rfl h0
  rcases hn with ⟨h0, _⟩ | ⟨_, _, h1, h2⟩ | ⟨_, h3, _⟩ | ⟨_, h3, _⟩
  · exact absurd hck h0
  · unfold OutR at h2
    rw [show (⟨1, 3, [], 0, 0⟩ : D).B.toNat = 3 from rfl, hG] at h2
    simp only at h2
    rw [e1] at h2
    obtain ⟨h2, h4, h5⟩ := h2
    have h6 : m = 300 := h2.trans (by decide)
    have h7 : e1' = 0 := h4
    subst h6 h7 h1
    rcases hc with ⟨h, _⟩ | ⟨_, h, _⟩ | ⟨_, _, _, h8, h9⟩
    · exact absurd rfl h
    · omega
    · subst h9
      exact ⟨h8, rfl, by rw [hs]; rfl, h5⟩
  · exact absurd h3 (by decide)
  · exact absurd h3 (by decide)
theorem fix5 {s' : BS} {G G' : Rs} {n e : Int} (h : WithinR ⟨6, 0, [], 0, 3⟩ ⟨[160], 0, false⟩ G 0 (-2147483647) 2147483647 n e s' G') : n = 5 ∧ e = 0 ∧ s' = ⟨[160], 3, false⟩ ∧ G' = G := by
  have e1 : BS.take ⟨[160], 0, false⟩ 3 = (5, ⟨[160], 3, false⟩) := by rfl
  have hck : chkI ⟨6, 0, [], 0, 3⟩ = 0 := by decide
  rcases h with ⟨h0, _⟩ | ⟨_, s1, ⟨m, e1', hn, hc⟩, hs⟩
  · exact absurd rfl h0
  rcases hn with ⟨h0, _⟩ | ⟨_, h3, _⟩ | ⟨_, h3, _⟩ | ⟨_, _, h1, h2, h4⟩
  · exact absurd hck h0
  · exact absurd h3 (by decide)
  · exact absurd h3 (by decide)
  · rw [show (⟨6, 0, [], 0, 3⟩ : D).bi.toNat = 3 from rfl, e1] at h2 h4
    simp only at h2 h4
    subst h2
    rcases h4 with ⟨h4, _⟩ | ⟨_, h5, h6⟩
    · cases h4
    · subst h5 h6
      rcases hc with ⟨h, _⟩ | ⟨_, h, _⟩ | ⟨_, _, _, h8, h9⟩
      · exact absurd rfl h
      · exfalso
        revert h
        decide
      · subst h9
        exact ⟨h8, rfl, by rw [hs]; rfl, h1⟩

theorem endOK {E : Int} (h : EndR ⟨[160], 3, false⟩ (ru (oneG 3 ⟨[129, 44], 0, 0⟩) 3 ⟨[129, 44], 2, 0⟩) 0 E) : E = 0 := by
  have hf : BS.fin ⟨[160], 3, false⟩ = 0 := by decide
  rcases h with ⟨h, _⟩ | ⟨_, h, _⟩ | ⟨_, _, ⟨h, _⟩ | ⟨i, r, h1, h2, _⟩⟩
  · exact absurd rfl h
  · exact absurd hf h
  · exact h
  · exfalso
    unfold ru oneG at h1
    split at h1
    · injection h1 with h1
      subst h1
      exact h2 (by decide)
    · cases h1
set_option maxHeartbeats 8000000 in
set_option maxRecDepth 100000 in
theorem awake (w : World) (ht : Tab w.heap.size w) : Calls Tryz.prog 21 #[] w fun r w' => r = .returned (.bool true) ∧ Keeps (fun _ => False) w w' := by
  have hmm := @run_makeMap Tryz.prog
  obtain ⟨q, hq⟩ : ∃ q, q = w.heap.size := ⟨_, rfl⟩
  obtain ⟨W0, hW0⟩ : ∃ W0, W0 = (((w.alloc (.cells #[.int .u8 160] 5)).alloc (.map #[] 0)).alloc (.cells #[.int .u8 129, .int .u8 44] 5)) := ⟨_, rfl⟩
  have hk0 : Keeps (fun _ => False) w W0 := by rw [hW0]; exact (((Keeps.refl _ _).alloc _).alloc _).alloc _
  have hs1 : (w.alloc (.cells #[.int .u8 160] 5)).heap.size = q + 1 := by rw [hq]; simp
  have hs2 : ((w.alloc (.cells #[.int .u8 160] 5)).alloc (.map #[] 0)).heap.size = q + 1 + 1 := by rw [hq]; simp
  have hb0 : Blk W0 q 5 #[.int .u8 160] := by
    rw [hW0, hq]
    exact ((Blk.new w 5 #[.int .u8 160]).alloc _).alloc _
  have hb2 : Blk W0 (q + 1 + 1) 5 #[.int .u8 129, .int .u8 44] := by
    have := Blk.new ((w.alloc (.cells #[.int .u8 160] 5)).alloc (.map #[] 0)) 5 #[.int .u8 129, .int .u8 44]
    rw [hs2] at this
    rw [hW0]
    exact this
  have hm0 : IsF Tryz.prog 3 60001 ikl W0 (q + 1) (fun _ => none) := by
    have h1 := (IsF.new Tryz.prog 3 60001 ikl (w.alloc (.cells #[.int .u8 160] 5))).keeps ((Keeps.refl (fun _ => False) _).alloc (.cells #[.int .u8 129, .int .u8 44] 5)) id
    rw [hs1] at h1
    rw [hW0]
    exact h1
  obtain ⟨W1, hrun, hu, hk1⟩ := Qi.IsF.update_run int_ks hm0 Tryz.underlying28 (by omega) (show 3 < 60001 by omega) (.slice (some ⟨q + 1 + 1, 0, none⟩) 2 2)
  have hkW : Keeps (fun _ => False) w W1 := keeps_low hk0 hk1 fun x hx => by omega
  have hb0' := hb0.keeps hk1 (by omega)
  have hb2' := hb2.keeps hk1 (by omega)
  have hl0 : Lies W1 (some ⟨q, 0, none⟩) [160] := .inr ⟨q, 0, rfl, hb0'.lt, fun i hi => by
    have hi0 : i = 0 := by simpa using hi
    subst hi0
    exact hb0'.cell 0⟩
  have hl2 : Lies W1 (some ⟨q + 1 + 1, 0, none⟩) [129, 44] := .inr ⟨q + 1 + 1, 0, rfl, hb2'.lt, fun i hi => by
    have hi0 : i = 0 ∨ i = 1 := by simp at hi; omega
    rcases hi0 with rfl | rfl
    · exact hb2'.cell 0
    · exact hb2'.cell 1⟩
  have HNW := Lib.hid (new_m (some ⟨q, 0, none⟩) 1 1 [160] (q + 1) (oneV 3 [129, 44]) (fun _ => some ⟨q + 1 + 1, 0, none⟩) (fun _ => 2) W1 rfl hl0 (by omega) (by simp) (one_map rfl hu) (fun i l h => by
    unfold oneV at h
    split at h
    · injection h with h
      subst h
      exact ⟨hl2, by simp, by simp⟩
    · cases h) (fun i hi => if_neg (by omega)))
  rw [oneV_G] at HNW
  have HT1 := Lib.hid (Tab_rise (ht.more (Nat.le_refl _) hkW) hkW.size)
  have HKW := Lib.hid hkW
  have hrun2 : (Instr.mapUpdate 28 (.map (some (q + 1))) (.int .i64 3) (.slice (some ⟨q + 1 + 1, 0, none⟩) 2 2)).run Tryz.prog W0 = .ok () W1 := hrun
  clear hrun
  clear ht hk0 hs1 hs2 hb0 hb2 hm0 hu hk1 hkW hb0' hb2' hl0 hl2
  subst hq
  subst hW0
  go_enter Tryz.func21, Tryz.ntmps21
  go_wp2_with (first
    | (have H := HNW; go_at_call 22; refine H.out.mono ?_; rintro r w2 ⟨g, F, rfl, hx, hk2⟩; have HI1 := Lib.hid (int_ none 0 0 ⟨1, 3, [], 0, 0⟩ w2 (HT1.out.more (Nat.le_refl _) hk2) hx (by omega) ⟨.inl rfl, rfl, by omega⟩ (by simp) (fun h => by omega)); unfold dv at HI1; have HK2 := Lib.hid (HKW.out.trans hk2); have HT2 := Lib.hid (HT1.out.more (Nat.le_refl _) hk2); have HL2 := Lib.hid hx.lt; have HW1 : Hid (w.heap.size ≤ W1.heap.size) := HKW.out.size; have HW2 : Hid (W1.heap.size ≤ w2.heap.size) := hk2.size; clear hx hk2 HNW)
    | (have H := HI1; go_at_call 28; refine H.out.mono ?_; rintro r w3 ⟨F3, n3, e3, s3, G3, rfl, h3, hs3, hr3⟩; obtain ⟨rfl, rfl, rfl, rfl⟩ := out300 hr3 (if_pos rfl); have HK3 : Hid (Keeps (fun _ => False) w w3) := keeps_low HK2.out hs3.keeps (fun x hx => Nat.le_trans HW1.out (HL2.out x hx).1); have HI2 := Lib.hid (int_ none 0 0 ⟨6, 0, [], 0, 3⟩ w3 (HT2.out.keeps HW2.out hs3.keeps fun x hx => (HL2.out x hx).1) h3 (by omega) ⟨.inl rfl, rfl, by omega⟩ (by simp) (fun h => by omega)); unfold dv at HI2; have HL3 := Lib.hid h3.lt; clear h3 hs3 hr3 HI1)
    | (have H := HI2; go_at_call 28; refine H.out.mono ?_; rintro r w4 ⟨F4, n4, e4, s4, G4, rfl, h4, hs4, hr4⟩; obtain ⟨rfl, rfl, rfl, rfl⟩ := fix5 hr4; have HK4 : Hid (Keeps (fun _ => False) w w4) := keeps_low HK3.out hs4.keeps (fun x hx => Nat.le_trans HW1.out (HL3.out x hx).1); have HEN := Lib.hid (end_z w4 h4); clear h4 hs4 hr4 HI2)
    | (have H := HEN; go_at_call 27; refine H.out.mono ?_; rintro r w5 ⟨E, rfl, hE, hk5⟩; obtain rfl : E = 0 := endOK hE; have HK5 := Lib.hid (HK4.out.trans hk5); clear hE hk5 HEN))
  go_ret
  exact ⟨rfl, HK5.out⟩
end Go.Proofs.YtgaofnmgdefdcaaGreatDoor.Le
