/- The statements' own map of a Quill's blocks (LensBack). No conditions. -/
/- The fixed fact of layer 11. The condition: strconv's table of tens reads as its text lays it. -/
import Derived.Test.YtgaofnmgdefdcaaGreatDoorJQlInLnNew
import Derived.Test.YtgaofnmgdefdcaaGreatDoorJQlGetAwake10
import Derived.Deep.CutRange
import Derived.Test.YtgaofnmgdefdcaaGreatDoorJQlArrQlNum

namespace Go.Proofs.YtgaofnmgdefdcaaGreatDoor.Lb
open Go.RowKit Go.Proofs.YtgaofnmgdefdcaaGreatDoor.Gen Go.Proofs.YtgaofnmgdefdcaaGreatDoor.Mp Go.Proofs.YtgaofnmgdefdcaaGreatDoor.Cm Go.Proofs.YtgaofnmgdefdcaaGreatDoor.Hr Go.Proofs.YtgaofnmgdefdcaaGreatDoor.Hn Go.Proofs.YtgaofnmgdefdcaaGreatDoor.Hk Go.Proofs.YtgaofnmgdefdcaaGreatDoor.Ln Go.Proofs.YtgaofnmgdefdcaaGreatDoor.Ds Go.Proofs.YtgaofnmgdefdcaaGreatDoor.Ky Go.Proofs.YtgaofnmgdefdcaaGreatDoor.Wr Go.Proofs.YtgaofnmgdefdcaaGreatDoor.Ir Go.Proofs.YtgaofnmgdefdcaaGreatDoor.Br Go.Proofs.YtgaofnmgdefdcaaGreatDoor.Qh Go.Proofs.YtgaofnmgdefdcaaGreatDoor.Qs Go.Proofs.YtgaofnmgdefdcaaGreatDoor.Qf Go.Proofs.YtgaofnmgdefdcaaGreatDoor.Qc Go.Proofs.YtgaofnmgdefdcaaGreatDoor.Qi Go.Proofs.YtgaofnmgdefdcaaGreatDoor.Qu Go.Proofs.YtgaofnmgdefdcaaGreatDoor.Le

theorem mem_bnums {G : Gs} {i : Nat} : i ∈ bnums G ↔ i < 60001 ∧ (G i).isSome = true := by
  unfold bnums
  simp
theorem own_ne_map {P : Program} {K e : TypeId} {M b base n sz : Nat} {kl : Nat → Lit} {val : Nat → Option Value} {w : World} {v : Value} {xs : List Value} (h : w.ownsRow base e sz v n xs) (hm : IsF P K M kl w b val) : ∀ g, v.ownBlock = some g → ¬ g = b := by
  intro g hg
  rcases h.2 with ⟨rfl, _⟩ | ⟨g', cap, cur, rfl, _, hh, _⟩
  · simp [Value.ownBlock] at hg
  · have : g' = g := by simpa [Value.ownBlock] using hg
    subst this
    exact hm.ne_blk hh
/-- What a map of a Quill's first blocks has. -/
def blkF (G : Gs) (l : List Nat) (fa : Nat → Option Addr) (fc : Nat → Nat) : Nat → Option Value := fun i => if i ∈ l then some (.slice (fa i) (had G i).length (fc i)) else none
theorem blkF_put {G : Gs} {l : List Nat} {fa : Nat → Option Addr} {fc : Nat → Nat} (i : Nat) (A : Option Addr) (c : Nat) :
    Cm.putF (blkF G l fa fc) i (.slice A (had G i).length c) = blkF G (l ++ [i]) (fun k => if k = i then A else fa k) (fun k => if k = i then c else fc k) := by
  funext k
  unfold Cm.putF blkF
  by_cases hk : k = i
  · subst hk
    rw [if_pos rfl, if_pos (by simp)]
    show _ = some (Value.slice (if k = k then A else fa k) (had G k).length (if k = k then c else fc k))
    rw [if_pos rfl, if_pos rfl]
  · rw [if_neg hk]
    have : k ∈ l ++ [i] ↔ k ∈ l := by simp [hk]
    simp only [this, if_neg hk]
structure Blks (w0 : World) (mb : Nat) (A : Option Addr) (n c b1 : Nat) (G : Gs) (j : Nat) (w : World) : Prop where
  ex : ∃ fa fc, IsF Tryz.prog 3 60001 ikl w mb (blkF G ((bnums G).take j) fa fc) ∧ ∀ i, i ∈ (bnums G).take j → Lies w (fa i) (had G i) ∧ ∀ b o, fa i = some ⟨b, o, none⟩ → b ≠ mb
  own : w.ownsRow b1 3 1 (.slice A n c) n ((bnums G).map fun i : Nat => Value.int .i64 i)
  keeps : Keeps (fun _ => False) w0 w
set_option maxHeartbeats 8000000 in
set_option maxRecDepth 100000 in
theorem blks_ (B g : Nat) (F : Nat → Prop) (l : List Nat) (G : Gs) (N : Nat) (w : World) (hq : Ql F B g l G N w) :
    Calls Tryz.prog 23 #[.pointer (some ⟨g, 0, none⟩)] w fun r w' => ∃ (mb : Nat) (fa : Nat → Option Addr) (fc : Nat → Nat), r = .returned (.map (some mb)) ∧ IsF Tryz.prog 3 60001 ikl w' mb (fun i => (cont G i).map fun l => .slice (fa i) l.length (fc i)) ∧ (∀ i l, cont G i = some l → Lies w' (fa i) l) ∧ Keeps (fun _ => False) w w' := by
  have hmm := @run_makeMap Tryz.prog
  obtain ⟨W0, hW0⟩ : ∃ W0, W0 = w.alloc (.map #[] 0) := ⟨_, rfl⟩
  obtain ⟨mb, hmb⟩ : ∃ mb, mb = w.heap.size := ⟨_, rfl⟩
  have hk0 : Keeps (fun _ => False) w W0 := by rw [hW0]; exact (Keeps.refl _ _).alloc _
  have HM0 : Hid (IsF Tryz.prog 3 60001 ikl W0 mb (fun _ => none)) := by
    show IsF _ _ _ _ _ _ _
    rw [hW0, hmb]
    exact IsF.new _ _ _ _ w
  have HQ := Lib.hid hq
  have HK0 := Lib.hid hk0
  have HBL := Lib.hid (blocks_ B g F l G N W0 (hq.more hk0))
  clear hq hk0
  go_enter Tryz.func23, Tryz.ntmps23
  go_wp2_with fail
  rw [← hW0, ← hmb]
  refine HBL.out.mono ?_
  rintro r w1 ⟨A, c, n, rfl, hn, ho, hk⟩
  have HN := Lib.hid hn
  have HI : Hid (Blks w mb A n c W0.heap.size G 0 w1) := by
    refine ⟨⟨fun _ => none, fun _ => 0, (HM0.out.keeps hk id).congr fun i _ => ?_, fun i h => by simp at h⟩, ho, HK0.out.trans hk⟩
    unfold blkF
    simp
  have HMW : Hid (w.heap.size ≤ mb) := by show _ ≤ _; omega
  clear ho hk HBL HM0 hW0 hn hmb
  go_wp2
  go_loopw [10] (fun iv wr => ∃ j : Nat, iv = .int .i64 (j : Int) ∧ j ≤ n ∧ Hid (Blks w mb A n c W0.heap.size G j wr)) (fun iv _ => n - (intOf iv).toNat)
  case atStart => exact ⟨0, rfl, by omega, HI⟩
  case round =>
    obtain ⟨j, rfl, hj, HB⟩ := hrel
    clear HI
    by_cases hlt : j < n
    · have hB := HB.out
      obtain ⟨⟨fa, fc, hm, hl⟩, ho, hk⟩ := hB
      have hlen : j < (bnums G).length := by have := HN.out; omega
      obtain ⟨i, hi⟩ : ∃ i, (bnums G)[j]? = some i := ⟨_, List.getElem?_eq_getElem hlen⟩
      have hi60 : i < 60001 := (mem_bnums.1 (List.mem_of_getElem? hi)).1
      obtain ⟨gA, rfl, hgA, hgl⟩ := own_someG ho (by omega)
      have hcr : wr.cell? ⟨gA, j, none⟩ = some (.int .i64 (i : Int)) := by
        have := ho.cells (g := gA) rfl j (.int .i64 (i : Int)) (by rw [List.getElem?_map, hi]; rfl)
        rw [add_none, Nat.zero_add] at this
        exact this
      have hxw : (Lit.int .i64 (i : Int)).wf = true := by
        have hm : IntKind.i64.min = -9223372036854775808 ∧ IntKind.i64.max = 9223372036854775807 := by decide
        simp [Lit.wf, hm.1, hm.2]
        omega
      have hhad : hadI G (i : Int) = had G i := by unfold hadI; rw [if_pos (by omega)]; rfl
      obtain ⟨m, hlm⟩ : ∃ m, (had G i).length = m := ⟨_, rfl⟩
      have HC := Lib.hid (block_ B g F l G N (i : Int) m wr (HQ.out.more hk) hxw (by rw [hhad]; exact hlm))
      rw [hhad] at HC
      have hj0 : (0 : Int) ≤ (j : Int) := by omega
      have hj1 : (j : Int) < (n : Int) := by omega
      have hnl : n ≤ 60001 := by
        have h1 : (bnums G).length ≤ 60001 := by
          unfold bnums
          have := List.length_filter_le (fun i => (G i).isSome) (List.range 60001)
          rw [List.length_range] at this
          exact this
        have := HN.out
        omega
      have hjw : IntKind.i64.wrap ((j : Int) + 1) = (j : Int) + 1 := IntWalk.i64_in _ (by omega)
      have HI := Lib.hid hi
      have HI6 := Lib.hid hi60
      have HM := Lib.hid hm
      have HL := Lib.hid hl
      have HO := Lib.hid ho
      have HK := Lib.hid hk
      have HLM := Lib.hid hlm
      clear hi hi60 hm hl ho hk hxw hhad hlm hgA hgl hlen hnl HB
      go_wp2_with fail
      refine HC.out.mono ?_
      rintro r w6 ⟨Ab, cb, rfl, ho6, hk6⟩
      obtain ⟨W5, hrun0, hu5, hk5⟩ := Qi.IsF.update_run int_ks (HM.out.keeps hk6 id) Tryz.underlying28 (by omega) HI6.out (.slice Ab m cb)
      have hrun : (Instr.mapUpdate 28 (.map (some mb)) (.int .i64 (i : Int)) (.slice Ab m cb)).run Tryz.prog w6 = .ok () W5 := hrun0
      have hap := own_ne_map ho6 (HM.out.keeps hk6 id)
      have HB5 : Hid (Blks w mb (some ⟨gA, 0, none⟩) n c W0.heap.size G (j + 1) W5) := by
        have htk : (bnums G).take (j + 1) = (bnums G).take j ++ [i] := by rw [List.take_add_one, HI.out]; rfl
        refine ⟨⟨fun k => if k = i then Ab else fa k, fun k => if k = i then cb else fc k, ?_, fun k hk => ?_⟩, own_keeps (own_keeps HO.out hk6 fun _ _ => id) hk5 (own_ne_map HO.out HM.out), ?_⟩
        · rw [htk, ← blkF_put, HLM.out]
          exact hu5
        · rw [htk] at hk
          by_cases e : k = i
          · subst e
            simp only [if_true]
            have hb : ∀ b o, Ab = some ⟨b, o, none⟩ → b ≠ mb := fun b o h => hap b (by rw [h]; rfl)
            exact ⟨(Lies.of_own ho6).keeps hk5 fun b o h => hb b o h, hb⟩
          · simp only [if_neg e]
            have hk2 : k ∈ (bnums G).take j := by
              rcases List.mem_append.1 hk with h | h
              · exact h
              · exact absurd (List.mem_singleton.1 h) e
            obtain ⟨q1, q2⟩ := HL.out k hk2
            exact ⟨(q1.keeps hk6 fun _ _ _ => id).keeps hk5 fun b o h => q2 b o h, q2⟩
        · exact keeps_low (HK.out.trans hk6) hk5 (fun x hx => by subst hx; exact HMW.out)
      clear hrun0 hu5 hk5 hap ho6 hk6 HC HM HL HO HK
      go_wp2
      exact ⟨⟨j + 1, by go_num, by omega, HB5⟩, by simp [intOf]; omega⟩
    · obtain rfl : j = n := by omega
      obtain ⟨⟨fa, fc, hm, hl⟩, ho, hk⟩ := HB.out
      rw [List.take_of_length_le (by have := HN.out; omega)] at hm hl
      have HK := Lib.hid hk
      have HR : Hid (IsF Tryz.prog 3 60001 ikl wr mb (fun i => (cont G i).map fun l => .slice (fa i) l.length (fc i))) := by
        refine hm.congr fun i hi => ?_
        unfold blkF cont had
        by_cases h : i ∈ bnums G
        · rw [if_pos h]
          have h2 := (mem_bnums.1 h).2
          cases hG : G i with
          | none => rw [hG] at h2; simp at h2
          | some e => simp
        · rw [if_neg h]
          cases hG : G i with
          | none => rfl
          | some e => exact absurd (mem_bnums.2 ⟨hi, by rw [hG]; rfl⟩) h
      have HL : Hid (∀ i l, cont G i = some l → Lies wr (fa i) l) := by
        intro i l h
        unfold cont at h
        cases hG : G i with
        | none => rw [hG] at h; cases h
        | some e =>
          rw [hG] at h
          injection h with h
          have hlt60 : i < 60001 := by
            obtain ⟨Fb, Fc, v, mb', mc, hh⟩ := HQ.out
            rcases hh.wms.2 with ⟨_, h0⟩ | ⟨b, _, hat⟩
            · rw [h0 i] at hG; cases hG
            · exact (hat.wr i e hG).1
          have := (hl i (mem_bnums.2 ⟨hlt60, by rw [hG]; rfl⟩)).1
          unfold had at this
          rw [hG] at this
          rw [← h]
          exact this
      clear hm hl ho hk HB HQ
      go_wp2
      go_ret
      exact ⟨mb, fa, fc, rfl, HR.out, HL.out, HK.out⟩
end Go.Proofs.YtgaofnmgdefdcaaGreatDoor.Lb

namespace Go.Proofs.YtgaofnmgdefdcaaGreatDoor.Le
open Go.RowKit Go.Proofs.YtgaofnmgdefdcaaGreatDoor.Gen Go.Proofs.YtgaofnmgdefdcaaGreatDoor.Mp Go.Proofs.YtgaofnmgdefdcaaGreatDoor.Cm Go.Proofs.YtgaofnmgdefdcaaGreatDoor.Hr Go.Proofs.YtgaofnmgdefdcaaGreatDoor.Hn Go.Proofs.YtgaofnmgdefdcaaGreatDoor.Hk Go.Proofs.YtgaofnmgdefdcaaGreatDoor.Ln Go.Proofs.YtgaofnmgdefdcaaGreatDoor.Ds Go.Proofs.YtgaofnmgdefdcaaGreatDoor.Ky Go.Proofs.YtgaofnmgdefdcaaGreatDoor.Wr Go.Proofs.YtgaofnmgdefdcaaGreatDoor.Ir Go.Proofs.YtgaofnmgdefdcaaGreatDoor.Br Go.Proofs.YtgaofnmgdefdcaaGreatDoor.Qh Go.Proofs.YtgaofnmgdefdcaaGreatDoor.Qs Go.Proofs.YtgaofnmgdefdcaaGreatDoor.Qf Go.Proofs.YtgaofnmgdefdcaaGreatDoor.Qc

theorem Tab_rise {B B' : Nat} {w : World} (h : Tab B w) (hB : B ≤ B') : Tab B' w := fun w' hb => h w' (hb.mono hB)
/-- A map of one row of bytes. -/
def oneV (k : Nat) (l : List Int) : Nat → Option (List Int) := fun i => if i = k then some l else none
def oneG (k : Nat) (r : RS) : Rs := fun i => if i = k then some r else none
theorem one_map {w : World} {b k n c : Nat} {A : Option Addr} {l : List Int} (hn : l.length = n) (h : IsF Tryz.prog 3 60001 ikl w b (putF (fun _ => none) k (.slice A n c))) :
    IsF Tryz.prog 3 60001 ikl w b (fun i => (oneV k l i).map fun l => .slice ((fun _ => A) i) l.length ((fun _ => c) i)) := by
  refine h.congr fun i _ => ?_
  unfold putF oneV
  by_cases hi : i = k
  · rw [if_pos hi, if_pos hi, ← hn]
    rfl
  · rw [if_neg hi, if_neg hi]
    rfl
theorem oneV_G (k : Nat) (l : List Int) : (fun i => (oneV k l i).map fun l => (⟨l, 0, 0⟩ : RS)) = oneG k ⟨l, 0, 0⟩ := by
  funext i
  unfold oneV oneG
  by_cases hi : i = k
  · rw [if_pos hi, if_pos hi]
    rfl
  · rw [if_neg hi, if_neg hi]
    rfl
theorem out300 {s s' : BS} {G G' : Rs} {n e : Int} (h : WithinR ⟨1, 3, [], 0, 0⟩ s G 0 (-2147483647) 2147483647 n e s' G') (hG : G 3 = some ⟨[129, 44], 0, 0⟩) : n = 300 ∧ e = 0 ∧ s' = s ∧ G' = ru G 3 ⟨[129, 44], 2, 0⟩ := by
  have e1 : RS.int ⟨[129, 44], 0, 0⟩ = (300, ⟨[129, 44], 2, 0⟩) := by rfl
  have hck : chkI ⟨1, 3, [], 0, 0⟩ = 0 := by decide
  rcases h with ⟨h0, _⟩ | ⟨_, s1, ⟨m, e1', hn, hc⟩, hs⟩
  · exact absurd rfl h0
  rcases hn with ⟨h0, _⟩ | ⟨_, _, h1, h2⟩ | ⟨_, h3, _⟩ | ⟨_, h3, _⟩
  · exact absurd hck h0
  · unfold OutR at h2
    rw [show (⟨1, 3, [], 0, 0⟩ : D).B.toNat = 3 from rfl, hG] at h2
    simp only at h2
    rw [e1] at h2
    obtain ⟨h2, h4, h5⟩ := h2
    have h6 : m = 300 := h2.trans (by decide)
    have h7 : e1' = 0 := h4
    subst h6 h7 h1
    rcases hc with ⟨h, _⟩ | ⟨_, h, _⟩ | ⟨_, _, _, h8, h9⟩
    · exact absurd rfl h
    · omega
    · subst h9
      exact ⟨h8, rfl, by rw [hs]; rfl, h5⟩
  · exact absurd h3 (by decide)
  · exact absurd h3 (by decide)
theorem fix5 {s' : BS} {G G' : Rs} {n e : Int} (h : WithinR ⟨6, 0, [], 0, 3⟩ ⟨[160], 0, false⟩ G 0 (-2147483647) 2147483647 n e s' G') : n = 5 ∧ e = 0 ∧ s' = ⟨[160], 3, false⟩ ∧ G' = G := by
  have e1 : BS.take ⟨[160], 0, false⟩ 3 = (5, ⟨[160], 3, false⟩) := by rfl
  have hck : chkI ⟨6, 0, [], 0, 3⟩ = 0 := by decide
  rcases h with ⟨h0, _⟩ | ⟨_, s1, ⟨m, e1', hn, hc⟩, hs⟩
  · exact absurd rfl h0
  rcases hn with ⟨h0, _⟩ | ⟨_, h3, _⟩ | ⟨_, h3, _⟩ | ⟨_, _, h1, h2, h4⟩
  · exact absurd hck h0
  · exact absurd h3 (by decide)
  · exact absurd h3 (by decide)
  · rw [show (⟨6, 0, [], 0, 3⟩ : D).bi.toNat = 3 from rfl, e1] at h2 h4
    simp only at h2 h4
    subst h2
    rcases h4 with ⟨h4, _⟩ | ⟨_, h5, h6⟩
    · cases h4
    · subst h5 h6
      rcases hc with ⟨h, _⟩ | ⟨_, h, _⟩ | ⟨_, _, _, h8, h9⟩
      · exact absurd rfl h
      · exfalso
        revert h
        decide
      · subst h9
        exact ⟨h8, rfl, by rw [hs]; rfl, h1⟩

theorem endOK {E : Int} (h : EndR ⟨[160], 3, false⟩ (ru (oneG 3 ⟨[129, 44], 0, 0⟩) 3 ⟨[129, 44], 2, 0⟩) 0 E) : E = 0 := by
  have hf : BS.fin ⟨[160], 3, false⟩ = 0 := by decide
  rcases h with ⟨h, _⟩ | ⟨_, h, _⟩ | ⟨_, _, ⟨h, _⟩ | ⟨i, r, h1, h2, _⟩⟩
  · exact absurd rfl h
  · exact absurd hf h
  · exact h
  · exfalso
    unfold ru oneG at h1
    split at h1
    · injection h1 with h1
      subst h1
      exact h2 (by decide)
    · cases h1
set_option maxHeartbeats 8000000 in
set_option maxRecDepth 100000 in
theorem awake (w : World) (ht : Tab w.heap.size w) : Calls Tryz.prog 21 #[] w fun r w' => r = .returned (.bool true) ∧ Keeps (fun _ => False) w w' := by
  have hmm := @run_makeMap Tryz.prog
  obtain ⟨q, hq⟩ : ∃ q, q = w.heap.size := ⟨_, rfl⟩
  obtain ⟨W0, hW0⟩ : ∃ W0, W0 = (((w.alloc (.cells #[.int .u8 160] 5)).alloc (.map #[] 0)).alloc (.cells #[.int .u8 129, .int .u8 44] 5)) := ⟨_, rfl⟩
  have hk0 : Keeps (fun _ => False) w W0 := by rw [hW0]; exact (((Keeps.refl _ _).alloc _).alloc _).alloc _
  have hs1 : (w.alloc (.cells #[.int .u8 160] 5)).heap.size = q + 1 := by rw [hq]; simp
  have hs2 : ((w.alloc (.cells #[.int .u8 160] 5)).alloc (.map #[] 0)).heap.size = q + 1 + 1 := by rw [hq]; simp
  have hb0 : Blk W0 q 5 #[.int .u8 160] := by
    rw [hW0, hq]
    exact ((Blk.new w 5 #[.int .u8 160]).alloc _).alloc _
  have hb2 : Blk W0 (q + 1 + 1) 5 #[.int .u8 129, .int .u8 44] := by
    have := Blk.new ((w.alloc (.cells #[.int .u8 160] 5)).alloc (.map #[] 0)) 5 #[.int .u8 129, .int .u8 44]
    rw [hs2] at this
    rw [hW0]
    exact this
  have hm0 : IsF Tryz.prog 3 60001 ikl W0 (q + 1) (fun _ => none) := by
    have h1 := (IsF.new Tryz.prog 3 60001 ikl (w.alloc (.cells #[.int .u8 160] 5))).keeps ((Keeps.refl (fun _ => False) _).alloc (.cells #[.int .u8 129, .int .u8 44] 5)) id
    rw [hs1] at h1
    rw [hW0]
    exact h1
  obtain ⟨W1, hrun, hu, hk1⟩ := Qi.IsF.update_run int_ks hm0 Tryz.underlying28 (by omega) (show 3 < 60001 by omega) (.slice (some ⟨q + 1 + 1, 0, none⟩) 2 2)
  have hkW : Keeps (fun _ => False) w W1 := keeps_low hk0 hk1 fun x hx => by omega
  have hb0' := hb0.keeps hk1 (by omega)
  have hb2' := hb2.keeps hk1 (by omega)
  have hl0 : Lies W1 (some ⟨q, 0, none⟩) [160] := .inr ⟨q, 0, rfl, hb0'.lt, fun i hi => by
    have hi0 : i = 0 := by simpa using hi
    subst hi0
    exact hb0'.cell 0⟩
  have hl2 : Lies W1 (some ⟨q + 1 + 1, 0, none⟩) [129, 44] := .inr ⟨q + 1 + 1, 0, rfl, hb2'.lt, fun i hi => by
    have hi0 : i = 0 ∨ i = 1 := by simp at hi; omega
    rcases hi0 with rfl | rfl
    · exact hb2'.cell 0
    · exact hb2'.cell 1⟩
  have HNW := Lib.hid (new_m (some ⟨q, 0, none⟩) 1 1 [160] (q + 1) (oneV 3 [129, 44]) (fun _ => some ⟨q + 1 + 1, 0, none⟩) (fun _ => 2) W1 rfl hl0 (by omega) (by simp) (one_map rfl hu) (fun i l h => by
    unfold oneV at h
    split at h
    · injection h with h
      subst h
      exact ⟨hl2, by simp, by simp⟩
    · cases h) (fun i hi => if_neg (by omega)))
  rw [oneV_G] at HNW
  have HT1 := Lib.hid (Tab_rise (ht.more (Nat.le_refl _) hkW) hkW.size)
  have HKW := Lib.hid hkW
  have hrun2 : (Instr.mapUpdate 28 (.map (some (q + 1))) (.int .i64 3) (.slice (some ⟨q + 1 + 1, 0, none⟩) 2 2)).run Tryz.prog W0 = .ok () W1 := hrun
  clear hrun
  clear ht hk0 hs1 hs2 hb0 hb2 hm0 hu hk1 hkW hb0' hb2' hl0 hl2
  subst hq
  subst hW0
  go_enter Tryz.func21, Tryz.ntmps21
  go_wp2_with (first
    | (have H := HNW; go_at_call 22; refine H.out.mono ?_; rintro r w2 ⟨g, F, rfl, hx, hk2⟩; have HI1 := Lib.hid (int_ none 0 0 ⟨1, 3, [], 0, 0⟩ w2 (HT1.out.more (Nat.le_refl _) hk2) hx (by omega) ⟨.inl rfl, rfl, by omega⟩ (by simp) (fun h => by omega)); unfold dv at HI1; have HK2 := Lib.hid (HKW.out.trans hk2); have HT2 := Lib.hid (HT1.out.more (Nat.le_refl _) hk2); have HL2 := Lib.hid hx.lt; have HW1 : Hid (w.heap.size ≤ W1.heap.size) := HKW.out.size; have HW2 : Hid (W1.heap.size ≤ w2.heap.size) := hk2.size; clear hx hk2 HNW)
    | (have H := HI1; go_at_call 28; refine H.out.mono ?_; rintro r w3 ⟨F3, n3, e3, s3, G3, rfl, h3, hs3, hr3⟩; obtain ⟨rfl, rfl, rfl, rfl⟩ := out300 hr3 (if_pos rfl); have HK3 : Hid (Keeps (fun _ => False) w w3) := keeps_low HK2.out hs3.keeps (fun x hx => Nat.le_trans HW1.out (HL2.out x hx).1); have HI2 := Lib.hid (int_ none 0 0 ⟨6, 0, [], 0, 3⟩ w3 (HT2.out.keeps HW2.out hs3.keeps fun x hx => (HL2.out x hx).1) h3 (by omega) ⟨.inl rfl, rfl, by omega⟩ (by simp) (fun h => by omega)); unfold dv at HI2; have HL3 := Lib.hid h3.lt; clear h3 hs3 hr3 HI1)
    | (have H := HI2; go_at_call 28; refine H.out.mono ?_; rintro r w4 ⟨F4, n4, e4, s4, G4, rfl, h4, hs4, hr4⟩; obtain ⟨rfl, rfl, rfl, rfl⟩ := fix5 hr4; have HK4 : Hid (Keeps (fun _ => False) w w4) := keeps_low HK3.out hs4.keeps (fun x hx => Nat.le_trans HW1.out (HL3.out x hx).1); have HEN := Lib.hid (end_z w4 h4); clear h4 hs4 hr4 HI2)
    | (have H := HEN; go_at_call 27; refine H.out.mono ?_; rintro r w5 ⟨E, rfl, hE, hk5⟩; obtain rfl : E = 0 := endOK hE; have HK5 := Lib.hid (HK4.out.trans hk5); clear hE hk5 HEN))
  go_ret
  exact ⟨rfl, HK5.out⟩
end Go.Proofs.YtgaofnmgdefdcaaGreatDoor.Le
