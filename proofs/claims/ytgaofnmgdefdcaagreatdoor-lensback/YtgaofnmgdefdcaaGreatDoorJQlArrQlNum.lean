/- quill.Array and stopped: what they answer, what they put: any way, any bytes. The condition: strconv's table of tens reads as its text lays it. -/
/- What is put is taken: plain facts of LensBack and LensShort: a Lens stands in the row of bits and in each block behind what was put first. Names no function of the program. -/
/- lens: End: what is left of the row, or in a block. -/
/- The statements' own number that is put (Act.Number): any act, any way that may be. No conditions beyond these. -/
import Derived.Test.YtgaofnmgdefdcaaGreatDoorJQlIntLnNext
import Derived.Test.YtgaofnmgdefdcaaGreatDoorJWireTakeSrtShelf
import Derived.Test.YtgaofnmgdefdcaaGreatDoorJDsTkPDsPutA
import Derived.Test.YtgaofnmgdefdcaaGreatDoorJLnActLnArr
import Derived.Test.YtgaofnmgdefdcaaGreatDoorJDsAnyDsBack
import Derived.Test.YtgaofnmgdefdcaaGreatDoorJQlStpQlSrt
import Derived.Test.YtgaofnmgdefdcaaGreatDoorDsSmE
import Derived.BigQuiet

namespace Go.Proofs.YtgaofnmgdefdcaaGreatDoor.Qu
open Go.RowKit Go.Proofs.YtgaofnmgdefdcaaGreatDoor.Ww Go.Proofs.YtgaofnmgdefdcaaGreatDoor.Gen Go.Proofs.YtgaofnmgdefdcaaGreatDoor.Mp Go.Proofs.YtgaofnmgdefdcaaGreatDoor.Cm Go.Proofs.YtgaofnmgdefdcaaGreatDoor.Hr Go.Proofs.YtgaofnmgdefdcaaGreatDoor.Hn Go.Proofs.YtgaofnmgdefdcaaGreatDoor.Hk Go.Proofs.YtgaofnmgdefdcaaGreatDoor.Ln Go.Proofs.YtgaofnmgdefdcaaGreatDoor.Ds Go.Proofs.YtgaofnmgdefdcaaGreatDoor.Ky Go.Proofs.YtgaofnmgdefdcaaGreatDoor.It Go.Proofs.YtgaofnmgdefdcaaGreatDoor.Ib Go.Proofs.YtgaofnmgdefdcaaGreatDoor.Bp Go.Proofs.YtgaofnmgdefdcaaGreatDoor.Qh Go.Proofs.YtgaofnmgdefdcaaGreatDoor.Qs Go.Proofs.YtgaofnmgdefdcaaGreatDoor.Qf Go.Proofs.YtgaofnmgdefdcaaGreatDoor.Qc Go.Proofs.YtgaofnmgdefdcaaGreatDoor.Qi

def pStop (a : E) (bs : List Int) (s : St) : Int × St := if a.S ∈ bs then (4, s) else (0, (s.1, pc s.2 a.B.toNat (hadP s.2 a.B.toNat ++ bs ++ [a.S])))
def pCnt (a : E) (bs : List Int) (s : St) : Int × St := if (pInt a.d bs.length s).1 = 0 then (0, ((pInt a.d bs.length s).2.1, pc (pInt a.d bs.length s).2.2 a.B.toNat (hadP (pInt a.d bs.length s).2.2 a.B.toNat ++ bs))) else pInt a.d bs.length s
def pArr (a : E) (bs : List Int) (s : St) : Int × St := if chkA a = 0 then (if a.K = 5 then pStop a bs s else pCnt a bs s) else (chkA a, s)

theorem hadP_pc (f : Nat → Option (List Int)) (i j : Nat) (ys : List Int) : hadP (pc f i ys) j = if j = i then ys else hadP f j := by
  unfold hadP pc
  split <;> rfl
theorem pInt_len (d : D) (x : Int) (s : St) : (pInt d x s).2.1.length ≤ s.1.length + 32 ∧ ∀ j, (hadP (pInt d x s).2.2 j).length ≤ (hadP s.2 j).length + 9 := by
  have h0 : s.1.length ≤ s.1.length + 32 ∧ ∀ j, (hadP s.2 j).length ≤ (hadP s.2 j).length + 9 := ⟨by omega, fun j => by omega⟩
  unfold pInt
  split
  · rename_i hc
    unfold putN
    split
    · exact h0
    · split
      · refine ⟨by simp, fun j => ?_⟩
        simp only [hadP_pc]
        split
        · rename_i hj
          subst hj
          have := (encInt_len (sg x)).2
          rw [List.length_append]
          omega
        · omega
      · split
        · rename_i h3
          unfold putW
          split
          · exact h0
          · rename_i p hp
            have hw : newE d.L = 0 := by simpa [chkI, h3] using hc
            have := word_fits hw hp
            refine ⟨?_, h0.2⟩
            simp only [List.length_append, tb_len]
            omega
        · unfold putF
          rename_i h1 h3
          split
          · exact h0
          · refine ⟨?_, h0.2⟩
            rcases chkI_in hc with h | h | ⟨_, _, hb⟩
            · exact absurd h.1 h1
            · exact absurd h.1 h3
            · simp only [List.length_append, tb_len]
              omega
  · exact h0

theorem lies_keeps {S : Nat → Prop} {w w1 : World} {A : Option Addr} {xs : List Int} (h : Lies w A xs) (k : Keeps S w w1) (hn : xs ≠ [] → ∀ b o, A = some ⟨b, o, none⟩ → ¬ S b) : Lies w1 A xs := by
  by_cases h0 : xs = []
  · exact .inl h0
  · exact h.keeps k (hn h0)

set_option maxHeartbeats 16000000 in
set_option maxRecDepth 100000 in
theorem stopped_ (B g : Nat) (F : Nat → Prop) (l : List Nat) (G : Gs) (N : Nat) (A : Option Addr) (n c : Nat) (a : E) (A2 : Option Addr) (m c2 : Nat) (bs : List Int) (w : World)
    (hB : B ≤ w.heap.size) (hq : Ql F B g l G N w) (hG : ∀ i, (had G i).length + m + 1 ≤ 1000000) (hb1 : 1 ≤ a.B ∧ a.B ≤ 60000) (hS : 0 ≤ a.S ∧ a.S < 256)
    (hm : bs.length = m) (h02 : A2 = none → c2 = 0) (hl : Lies w A2 bs) (hby : ∀ y ∈ bs, 0 ≤ y ∧ y < 256) (hE : bs ≠ [] → ∀ b o, A2 = some ⟨b, o, none⟩ → ¬ F b) :
    Calls Tryz.prog 33 #[.pointer (some ⟨g, 0, none⟩), .agg (av A n c a), .slice A2 m c2] w fun r w' => Did B g N F (pStop a bs (l, cont G)) w w' r := by
  obtain ⟨q, hqe⟩ : ∃ q, q = w.heap.size := ⟨_, rfl⟩
  obtain ⟨W, hW⟩ : ∃ W, W = w.alloc (.cells (av A n c a) 45) := ⟨_, rfl⟩
  have hk1 : Keeps (fun _ => False) w W := by rw [hW]; exact (Keeps.refl _ _).alloc _
  have HBX : Hid (Blk W q 45 (av A n c a)) := by show Blk _ _ _ _; rw [hW, hqe]; exact Blk.new _ _ _
  obtain ⟨Fb, Fc, v, mb, mc, h⟩ := hq.more hk1
  have hqF : ∀ k, F k → k ≠ q := fun k hk e => by
    have := hq.lt k hk
    omega
  obtain ⟨i, hi⟩ := Int.eq_ofNat_of_zero_le (show 0 ≤ a.B by omega)
  obtain ⟨last, o, hb, hr⟩ := row_cells h.row
  have HIN := Lib.hid (into_ g 77 #[v, .int .u64 last, .int .i64 o, mb, mc] Fb mb G i W (by omega) hb rfl h.ing.2.1 h.wms)
  have HK1 := Lib.hid hk1
  have HH := Lib.hid h
  have HR := Lib.hid hr
  have HQF := Lib.hid hqF
  have HBW : Hid (B ≤ W.heap.size) := Nat.le_trans hB hk1.size
  have HGL := Lib.hid hG
  have HE := Lib.hid hE
  have HLI := Lib.hid (hl.keeps hk1 fun _ _ _ => id)
  have HMM := Lib.hid hm
  have HIX := Lib.hid (fun w => Wr.index A2 m c2 bs a.S w hm)
  obtain ⟨p, hp⟩ : ∃ p, pStop a bs (l, cont G) = p := ⟨_, rfl⟩
  rw [hp]
  have HP : Hid (p = if a.S ∈ bs then (4, (l, cont G)) else (0, (l, pc (cont G) i (hadP (cont G) i ++ bs ++ [a.S])))) := by show p = _; rw [← hp, pStop, hi]; rfl
  have HQG : Hid (∀ k, F k → k < W.heap.size) := h.lt
  obtain ⟨k0, hk0, hk0m⟩ : ∃ k0, Lib.indexByte (Lib.bytesOf bs) a.S.toNat.toUInt8 = k0 ∧ (0 ≤ k0 ↔ a.S ∈ bs) := by
    refine ⟨_, Wr.index_eq a.S hS bs hby, ?_⟩
    split
    · rename_i hlt
      refine ⟨fun _ => ?_, fun _ => by omega⟩
      obtain ⟨y, hy, e⟩ := List.findIdx_lt_length.1 hlt
      rw [← beq_iff_eq.1 e]
      exact hy
    · rename_i hlt
      refine ⟨fun h => by omega, fun hy => absurd (List.findIdx_lt_length.2 ⟨_, hy, by simp⟩) hlt⟩
  rw [hk0] at HIX
  have HK0 := Lib.hid hk0m
  clear hp hk1 h hb hr hqF hG hE hl hq hm hk0 hk0m
  obtain ⟨⟨K, Bl, L, le, bi⟩, K2, B2, S2⟩ := a
  simp only at hi hb1 hS HIX HP HK0
  subst hi
  unfold av at HBX hW ⊢
  simp only at HBX hW ⊢
  have x6 := HBX.out.cell 6
  have x7 := HBX.out.cell 7
  simp only [List.getElem?_toArray, List.getElem?_cons_zero, List.getElem?_cons_succ] at x6 x7
  by_cases hin : S2 ∈ bs
  · have h0 : 0 ≤ k0 := HK0.out.2 hin
    have HPE : Hid (p = (4, (l, cont G))) := by show p = _; rw [HP.out, if_pos hin]
    clear HP HK0
    go_enter Tryz.func33, Tryz.ntmps33
    go_upto_region 1 with fail
    rw [← hqe, ← hW]
    clear hqe hW
    go_wp2_with (go_at_call 60; refine (HIX.out _ HLI.out).mono ?_; rintro r w1 ⟨rfl, rfl⟩)
    go_ret
    rw [HPE.out]
    exact ⟨F, G, rfl, ⟨_, _, _, _, _, HH.out⟩, rfl, Step.quiet HK1.out⟩
  · have h0 : ¬ 0 ≤ k0 := fun h => hin (HK0.out.1 h)
    have h0' : k0 < 0 := by omega
    have HPE : Hid (p = (0, (l, pc (cont G) i (hadP (cont G) i ++ bs ++ [S2])))) := by show p = _; rw [HP.out, if_neg hin]
    clear HP HK0
    go_enter Tryz.func33, Tryz.ntmps33
    go_upto_region 1 with fail
    rw [← hqe, ← hW]
    clear hqe hW
    go_wp2_with (go_at_call 60; refine (HIX.out _ HLI.out).mono ?_; rintro r w1 ⟨rfl, rfl⟩)
    refine HIN.out.mono ?_
    rintro r w2 ⟨gi, vi, mb', Fb', rfl, j1, j2, j3, j4⟩
    have J := Lib.hid (HH.out.wms' HBW.out HR.out (by exact j1) j2 j3 j4)
    obtain ⟨hwr, hits⟩ : IsWr 0 gi vi (had G i) w2 ∧ ∀ k, Its gi vi k → Fb' k := by
      rcases j3.2 with ⟨_, hn⟩ | ⟨b, _, hm⟩
      · have := hn i
        simp [pu] at this
      · have h1 := hm.wr i _ (pu_at G i _)
        exact ⟨h1.2.1, fun k hk => (h1.2.2 k hk).1⟩
    have hjk := J.out.2.keeps
    have HX2 := Lib.hid (HBX.out.keeps hjk fun e => HQF.out q e rfl)
    have HNI : Hid (¬ Its gi vi q) := fun e => by
      rcases J.out.2.sub q (.inr (.inl (hits q e))) with h1 | h1
      · exact HQF.out q h1 rfl
      · have := HBX.out.lt
        omega
    have HPT := Lib.hid (Ww.put gi 0 vi (had G i) bs A2 m c2 w2 HMM.out h02 hwr (lies_keeps HLI.out hjk HE.out) (by have := HGL.out i; omega))
    clear j1 j2 j3 j4 HIN hwr hits hjk
    go_wp2_with fail
    refine HPT.out.mono ?_
    rintro r w3 ⟨rfl, v1, hw1, hk3, ho3⟩
    have HBY := Lib.hid (Ww.byte gi 0 v1 (had G i ++ bs) S2 w3.drew (hw1.keeps ((Keeps.refl (fun _ => False) w3).drewN 1) fun _ _ => id) (by have := HGL.out i; have := HMM.out; rw [List.length_append]; omega))
    have HX3 := Lib.hid (HX2.out.keeps hk3 HNI.out)
    have HK3 := Lib.hid hk3
    have HO3 := Lib.hid ho3
    have HN1 : Hid (¬ Its gi v1 q) := fun e => by
      rcases e with e | e
      · exact HNI.out (.inl e)
      · rcases ho3 with h1 | ⟨b, h1, h2⟩
        · exact HNI.out (.inr (h1 ▸ e))
        · rw [h1] at e
          injection e with e
          have := HX2.out.lt
          omega
    have y7 := HX3.out.cell 7
    simp only [List.getElem?_toArray, List.getElem?_cons_zero, List.getElem?_cons_succ] at y7
    clear hw1 hk3 ho3 HPT
    go_upto_region 5 with fail
    go_region_held3 (fun w' => w'.cell? ⟨q, 7, none⟩ = some (.int .u8 S2)) (go_keep)
      ((have H := HBY; go_at_call 61; refine H.out.mono ?_; rintro r w4 hp; obtain rfl := hp.1; have z7 : w4.cell? ⟨q, 7, none⟩ = some (.int .u8 S2) := (Blk.keeps (w := w3.drew) HX3.out (by obtain ⟨_, _, _, hk, _⟩ := hp; exact hk) HN1.out).cell 7; have HPU := Lib.hid hp; clear hp HBY))
    go_wp2
    go_ret
    obtain ⟨_, v4, hw4, hk4, ho4⟩ := HPU.out
    have hpt : Puts 0 gi vi (had G i ++ bs ++ [S2]) w2 (.returned (.tuple #[])) w4 := Iw.puts_trans HK3.out HO3.out ⟨rfl, v4, hw4, hk4.of_drew, ho4⟩
    obtain ⟨jq, js⟩ := J.out
    obtain ⟨F', v', hq', hs'⟩ := jq.put' (Nat.le_trans HBW.out js.keeps.size) (pu_at G i _) hpt
    rw [HPE.out]
    refine ⟨F', _, rfl, hq', ?_, ((Step.pre HK1.out js)).trans hs'⟩
    rw [pu_pu, cont_pu]
    rfl
set_option maxHeartbeats 16000000 in
set_option maxRecDepth 100000 in
theorem array_ (B g : Nat) (F : Nat → Prop) (l : List Nat) (G : Gs) (N : Nat) (A : Option Addr) (n c : Nat) (a : E) (A2 : Option Addr) (m c2 : Nat) (bs : List Int) (w : World)
    (ht : Tab B w) (hB : B ≤ w.heap.size) (hq : Ql F B g l G N w) (hN : N ≤ 1000) (hll : l.length + 64 ≤ 8000000) (hG : ∀ i, (had G i).length + m + 20 ≤ 1000000)
    (hL : Ents w A n a.d.L) (hf : ∀ y ∈ a.d.L, Fits y) (hE : 0 < n → ∀ b o, A = some ⟨b, o, none⟩ → ¬ F b) (hS : 0 ≤ a.S ∧ a.S < 256)
    (hm : bs.length = m) (h02 : A2 = none → c2 = 0) (hl : Lies w A2 bs) (hby : ∀ y ∈ bs, 0 ≤ y ∧ y < 256) (hE2 : bs ≠ [] → ∀ b o, A2 = some ⟨b, o, none⟩ → ¬ F b) :
    Calls Tryz.prog 10 #[.pointer (some ⟨g, 0, none⟩), .agg (av A n c a), .slice A2 m c2] w fun r w' => Did B g (N + 1) F (pArr a bs (l, cont G)) w w' r := by
  obtain ⟨q, hqe⟩ : ∃ q, q = w.heap.size := ⟨_, rfl⟩
  obtain ⟨W, hW⟩ : ∃ W, W = w.alloc (.cells (av A n c a) 45) := ⟨_, rfl⟩
  have hk1 : Keeps (fun _ => False) w W.drew := by rw [hW]; exact ((Keeps.refl _ _).alloc _).drewN 1
  have HBX : Hid (Blk W q 45 (av A n c a)) := by show Blk _ _ _ _; rw [hW, hqe]; exact Blk.new _ _ _
  obtain ⟨Fb, Fc, v, mb, mc, h⟩ := hq.more hk1
  obtain ⟨last, o, hb, hr⟩ := row_cells h.row
  have hqF : ∀ k, F k → k ≠ q := fun k hk e => by
    have := hq.lt k hk
    omega
  have hB1 : B ≤ W.drew.heap.size := Nat.le_trans hB hk1.size
  have HCA := Lib.hid (arrays_ B g 4 Fc N mc A n c a W.drew (ht.more hB hk1) hB1 (hb.cell 4) hb.lt h.kept (hL.more hk1) hf)
  have HST := Lib.hid (fun W2 (k : Keeps (fun _ => False) W.drew W2) (hb1 : 1 ≤ a.B ∧ a.B ≤ 60000) => stopped_ B g F l G N A n c a A2 m c2 bs W2 (Nat.le_trans hB1 k.size) ((hq.more hk1).more k) (fun i => by have := hG i; omega) hb1 hS hm h02 ((hl.keeps hk1 fun _ _ _ => id).keeps k fun _ _ _ => id) hby hE2)
  have HIT := Lib.hid (fun W2 (k : Keeps (fun _ => False) W.drew W2) => int_ B g F l G N A n c a.d m W2 ((ht.more hB hk1).more hB1 k) (Nat.le_trans hB1 k.size) ((hq.more hk1).more k) hN (by omega) (fun i => by have := hG i; omega) ((hL.more hk1).more k) hf hE (by
    have h1 := hG 0
    have hm : IntKind.i64.min = -9223372036854775808 ∧ IntKind.i64.max = 9223372036854775807 := by decide
    simp [Lit.wf, hm.1, hm.2]
    omega))
  have HK1 := Lib.hid hk1
  have HQ := Lib.hid hq
  have HQF := Lib.hid hqF
  have HGL := Lib.hid hG
  have HE2 := Lib.hid hE2
  have HLI := Lib.hid hl
  have HMM := Lib.hid hm
  have HB1 := Lib.hid hB1
  obtain ⟨p, hp⟩ : ∃ p, pArr a bs (l, cont G) = p := ⟨_, rfl⟩
  rw [hp]
  have HP : Hid (p = if chkA a = 0 then (if a.K = 5 then pStop a bs (l, cont G) else pCnt a bs (l, cont G)) else (chkA a, (l, cont G))) := by show p = _; rw [← hp, pArr]
  obtain ⟨ca, hca⟩ : ∃ ca, chkA a = ca := ⟨_, rfl⟩
  rw [hca] at HCA HP
  have HCK := Lib.hid hca
  clear hp hk1 h hb hr hqF hG hE hl hq hm hE2 hL hf ht hca hB1
  have HAV := HST
  obtain ⟨⟨K, Bl, L, le, bi⟩, K2, B2, S2⟩ := a
  unfold av at HBX hW HCA HST ⊢
  unfold dv at HIT
  simp only at HBX hW HCA HST HIT HP hS ⊢
  have x0 := HBX.out.cell 0
  have x1 := HBX.out.cell 1
  have x2 := HBX.out.cell 2
  have x3 := HBX.out.cell 3
  have x4 := HBX.out.cell 4
  have x5 := HBX.out.cell 5
  have x6 := HBX.out.cell 6
  have x7 := HBX.out.cell 7
  simp only [List.getElem?_toArray, List.getElem?_cons_zero, List.getElem?_cons_succ] at x0 x1 x2 x3 x4 x5 x6 x7
  go_enter Tryz.func10, Tryz.ntmps10
  go_upto_region 3 with fail
  rw [← hqe, ← hW]
  clear hqe hW HAV
  go_region_held3 (fun w' => w'.cell? ⟨q, 0, none⟩ = some (.int .u8 K) ∧ w'.cell? ⟨q, 1, none⟩ = some (.int .i64 Bl) ∧ w'.cell? ⟨q, 2, none⟩ = some (.slice A n c) ∧ w'.cell? ⟨q, 3, none⟩ = some (.int .i64 le) ∧ w'.cell? ⟨q, 4, none⟩ = some (.int .i64 bi) ∧ w'.cell? ⟨q, 5, none⟩ = some (.int .u8 K2) ∧ w'.cell? ⟨q, 6, none⟩ = some (.int .i64 B2) ∧ w'.cell? ⟨q, 7, none⟩ = some (.int .u8 S2)) (go_keep)
    ((have H := HCA; go_at_call 32; refine H.out.mono ?_; rintro r w1 ⟨rfl, hk2⟩; have HK2 := Lib.hid hk2; have HX1 := Lib.hid (Blk.keeps (w := W.drew) HBX.out hk2 id); have y0 := HX1.out.cell 0; have y1 := HX1.out.cell 1; have y2 := HX1.out.cell 2; have y3 := HX1.out.cell 3; have y4 := HX1.out.cell 4; have y5 := HX1.out.cell 5; have y6 := HX1.out.cell 6; have y7 := HX1.out.cell 7; simp only [List.getElem?_toArray, List.getElem?_cons_zero, List.getElem?_cons_succ] at y0 y1 y2 y3 y4 y5 y6 y7; clear hk2 HCA))
  have HQ1 := Lib.hid ((HQ.out.more HK1.out).more HK2.out)
  have HKW := Lib.hid (HK1.out.trans HK2.out)
  by_cases h0 : ca = 0
  · subst h0
    obtain ⟨hb1, hk⟩ := chkA_ok HCK.out
    simp only at hb1 hk
    by_cases h5 : K2 = 5
    · subst h5
      have HPE : Hid (p = pStop ⟨⟨K, Bl, L, le, bi⟩, 5, B2, S2⟩ bs (l, cont G)) := by show p = _; rw [HP.out, if_pos rfl, if_pos rfl]
      have HSR := Lib.hid (HST.out w1 HK2.out hb1)
      clear HP HST HIT
      go_wp2_with fail
      refine HSR.out.mono ?_
      rintro r w2 ⟨F', G', rfl, hq', hc', hs'⟩
      have HR := Lib.hid (show Ql F' B g _ G' N w2 from hq')
      have HC := Lib.hid hc'
      have HS := Lib.hid hs'
      clear hq' hc' hs' HSR
      go_wp2
      go_ret
      rw [HPE.out]
      exact ⟨F', G', rfl, HR.out.le (by omega), HC.out, Step.pre HKW.out HS.out⟩
    · have h4 : K2 = 4 := by omega
      subst h4
      have HPE : Hid (p = pCnt ⟨⟨K, Bl, L, le, bi⟩, 4, B2, S2⟩ bs (l, cont G)) := by show p = _; rw [HP.out, if_pos rfl, if_neg (by decide)]
      have HSR := Lib.hid (HIT.out w1 HK2.out)
      have hlen := pInt_len ⟨K, Bl, L, le, bi⟩ m (l, cont G)
      obtain ⟨i, hi⟩ := Int.eq_ofNat_of_zero_le (show 0 ≤ B2 by omega)
      subst hi
      have HPF : Hid (p = if (pInt ⟨K, Bl, L, le, bi⟩ m (l, cont G)).1 = 0 then (0, ((pInt ⟨K, Bl, L, le, bi⟩ m (l, cont G)).2.1, pc (pInt ⟨K, Bl, L, le, bi⟩ m (l, cont G)).2.2 i (hadP (pInt ⟨K, Bl, L, le, bi⟩ m (l, cont G)).2.2 i ++ bs))) else pInt ⟨K, Bl, L, le, bi⟩ m (l, cont G)) := by
        show p = _
        rw [HPE.out, pCnt, HMM.out]
        rfl
      clear HP HST HIT HPE
      unfold Did at HSR
      obtain ⟨p1, hp1⟩ : ∃ p1, pInt ⟨K, Bl, L, le, bi⟩ m (l, cont G) = p1 := ⟨_, rfl⟩
      rw [hp1] at HSR HPF hlen
      clear hp1
      obtain ⟨e1, l1, f1⟩ := p1
      simp only at HSR HPF hlen
      have HLN := Lib.hid hlen
      clear hlen
      go_wp2_with fail
      refine HSR.out.mono ?_
      rintro r w2 ⟨F', G', rfl, hq', hc', hs'⟩
      have HR := Lib.hid hq'
      have HC := Lib.hid hc'
      have HS := Lib.hid hs'
      have HX2 := Lib.hid (HX1.out.keeps hs'.keeps fun e => HQF.out q e rfl)
      have z6 := HX2.out.cell 6
      simp only [List.getElem?_toArray, List.getElem?_cons_zero, List.getElem?_cons_succ] at z6
      clear hq' hc' hs' HSR
      by_cases he : e1 = 0
      · subst he
        have HPG : Hid (p = (0, (l1, pc f1 i (hadP f1 i ++ bs)))) := by show p = _; rw [HPF.out, if_pos rfl]
        obtain ⟨Fb1, Fc1, v1, mb1, mc1, h1⟩ := HR.out
        obtain ⟨last1, o1, hb2, hr2⟩ := row_cells h1.row
        have hB2 : B ≤ w2.heap.size := Nat.le_trans (Nat.le_trans HB1.out HK2.out.size) HS.out.keeps.size
        have HIN := Lib.hid (into_ g 77 #[v1, .int .u64 last1, .int .i64 o1, mb1, mc1] Fb1 mb1 G' i w2 (by omega) hb2 rfl h1.ing.2.1 h1.wms)
        have HB2 := Lib.hid hB2
        have HH1 := Lib.hid h1
        have HR2 := Lib.hid hr2
        have HGS : Hid ((had G' i).length + m ≤ 1000000) := by
          have h2 := HLN.out.2 i
          have h3 := HGL.out i
          rw [had_cont] at h3
          show (had G' i).length + m ≤ 1000000
          rw [had_cont, HC.out]
          omega
        have HL2 : Hid (Lies w2 A2 bs) := lies_keeps (HLI.out.keeps HKW.out fun _ _ _ => id) HS.out.keeps HE2.out
        have HE3 : Hid (bs ≠ [] → ∀ b o, A2 = some ⟨b, o, none⟩ → b < w.heap.size → ¬ F' b) := fun hn b o e hb hf => by
          rcases HS.out.sub b hf with h2 | h2
          · exact HE2.out hn b o e h2
          · have := HKW.out.size
            omega
        have HLW : Hid (bs = [] ∨ ∀ b o, A2 = some ⟨b, o, none⟩ → b < w.heap.size) := by
          rcases HLI.out with h2 | ⟨b, o, h2, h3, _⟩
          · exact .inl h2
          · refine .inr fun b' o' e => ?_
            rw [h2] at e
            injection e with e
            injection e with e
            omega
        clear HPF h1 hb2 hr2 hB2
        go_wp2_with fail
        refine HIN.out.mono ?_
        rintro r w3 ⟨gi, vi, mb', Fb', rfl, j1, j2, j3, j4⟩
        have J := Lib.hid (HH1.out.wms' HB2.out HR2.out (by exact j1) j2 j3 j4)
        have hwr : IsWr 0 gi vi (had G' i) w3 := by
          rcases j3.2 with ⟨_, hn⟩ | ⟨b, _, hm⟩
          · have := hn i
            simp [pu] at this
          · exact (hm.wr i _ (pu_at G' i _)).2.1
        have hl3 : Lies w3 A2 bs := by
          rcases HLW.out with h2 | h2
          · exact .inl h2
          · exact lies_keeps HL2.out J.out.2.keeps fun hn b o e => HE3.out hn b o e (h2 b o e)
        have HPT := Lib.hid (Ww.put gi 0 vi (had G' i) bs A2 m c2 w3 HMM.out h02 hwr hl3 HGS.out)
        clear j1 j2 j3 j4 HIN hwr hl3
        go_wp2_with fail
        refine HPT.out.mono ?_
        rintro r w4 hp
        obtain rfl := hp.1
        have HPU := Lib.hid hp
        clear hp HPT
        go_wp2
        go_ret
        obtain ⟨jq, js⟩ := J.out
        obtain ⟨F3, v3, hq3, hs3⟩ := jq.put' (Nat.le_trans HB2.out js.keeps.size) (pu_at G' i _) HPU.out
        rw [HPG.out]
        refine ⟨F3, _, rfl, hq3, ?_, (Step.pre HKW.out (HS.out.trans js)).trans hs3⟩
        rw [pu_pu, cont_pu, HC.out, had_cont, HC.out]
      · have hne : (e1 != 0) = true := by simpa using he
        go_wp2
        go_ret
        rw [HPF.out, if_neg he]
        exact ⟨F', G', rfl, HR.out, HC.out, Step.pre HKW.out HS.out⟩
  · have hne : (ca != 0) = true := by simpa using h0
    go_wp2
    go_ret
    rw [HP.out, if_neg h0]
    exact ⟨F, G, rfl, HQ1.out.le (by omega), rfl, Step.quiet HKW.out⟩
end Go.Proofs.YtgaofnmgdefdcaaGreatDoor.Qu

namespace Go.Proofs.YtgaofnmgdefdcaaGreatDoor.Le
open Go.RowKit Go.Proofs.YtgaofnmgdefdcaaGreatDoor.Gen Go.Proofs.YtgaofnmgdefdcaaGreatDoor.Hu Go.Proofs.YtgaofnmgdefdcaaGreatDoor.Mp Go.Proofs.YtgaofnmgdefdcaaGreatDoor.Cm Go.Proofs.YtgaofnmgdefdcaaGreatDoor.Hr Go.Proofs.YtgaofnmgdefdcaaGreatDoor.Hn Go.Proofs.YtgaofnmgdefdcaaGreatDoor.Hk Go.Proofs.YtgaofnmgdefdcaaGreatDoor.Ln Go.Proofs.YtgaofnmgdefdcaaGreatDoor.Ds Go.Proofs.YtgaofnmgdefdcaaGreatDoor.Ky Go.Proofs.YtgaofnmgdefdcaaGreatDoor.Wr Go.Proofs.YtgaofnmgdefdcaaGreatDoor.Ir Go.Proofs.YtgaofnmgdefdcaaGreatDoor.Ib Go.Proofs.YtgaofnmgdefdcaaGreatDoor.Br Go.Proofs.YtgaofnmgdefdcaaGreatDoor.Bp Go.Proofs.YtgaofnmgdefdcaaGreatDoor.Qh Go.Proofs.YtgaofnmgdefdcaaGreatDoor.Qs Go.Proofs.YtgaofnmgdefdcaaGreatDoor.Qf Go.Proofs.YtgaofnmgdefdcaaGreatDoor.Qc Go.Proofs.YtgaofnmgdefdcaaGreatDoor.It Go.Proofs.YtgaofnmgdefdcaaGreatDoor.Qi Go.Proofs.YtgaofnmgdefdcaaGreatDoor.Qu

/-- Two words that the next bits are: one. -/
theorem word_one {L : List (Int × Nat)} (h : ∀ p ∈ L, p.2 ≤ 20) (hf : posOf L ≤ 2 ^ 20) {s : BS} {a b : Int × Nat × Nat} (ha : a ∈ wordsOf L) (hb : b ∈ wordsOf L) (na : NextIs s a.2.1 a.2.2) (nb : NextIs s b.2.1 b.2.2) : a = b := by
  have key : ∀ {a b : Int × Nat × Nat}, a ∈ wordsOf L → b ∈ wordsOf L → NextIs s a.2.1 a.2.2 → NextIs s b.2.1 b.2.2 → a.2.1 ≤ b.2.1 → a = b := by
    intro a b ha hb na nb hz
    refine Classical.byContradiction fun hne => apart h hf ha hb hne hz ?_
    have pb : ∀ k z, ∀ x ∈ piece s.bits k z, x < 2 := fun k z => piece_bit (ofB_bit _) k z
    have e1 := (tb_num _ (piece s.bits s.k a.2.1) (piece_len (by rw [s.len]; exact na.1)) (pb _ _)).1
    have e2 := (tb_num _ (piece s.bits s.k b.2.1) (piece_len (by rw [s.len]; exact nb.1)) (pb _ _)).1
    rw [na.2] at e1
    rw [nb.2] at e2
    rw [e1, e2]
    unfold piece
    rw [List.take_take, Nat.min_eq_left hz]
  rcases Nat.le_total a.2.1 b.2.1 with hz | hz
  · exact key ha hb na nb hz
  · exact (key hb ha nb na hz).symm
theorem next_piece {s : BS} {z v : Nat} {a r : List Nat} (h : s.bits = a ++ (tb v z ++ r)) (hk : s.k = a.length) (hv : v < 2 ^ z) : NextIs s z v := by
  refine ⟨?_, ?_⟩
  · have := congrArg List.length h
    rw [s.len] at this
    simp only [List.length_append, tb_len] at this
    omega
  · rw [h, hk]
    unfold piece
    rw [List.drop_append_of_le_length (Nat.le_refl _), List.drop_length, List.nil_append, List.take_append_of_le_length (by rw [tb_len]; exact Nat.le_refl _), List.take_of_length_le (by rw [tb_len]; exact Nat.le_refl _), num_tb, Nat.mod_eq_of_lt hv]
/-- A Lens of a row of bits and of blocks' bytes, behind what was put first. -/
structure AtL (zs : List Int) (Y : Nat → Option (List Int)) (p : St) (s : BS) (G : Rs) : Prop where
  row : s = ⟨zs, p.1.length, false⟩
  blk : G = fun i => (Y i).map fun ys => ⟨ys, (hadP p.2 i).length, 0⟩
/-- What was put first begins the row, and each block. -/
def Sub (p : St) (zs : List Int) (Y : Nat → Option (List Int)) : Prop :=
  (∃ r, (⟨zs, 0, false⟩ : BS).bits = p.1 ++ r) ∧ ∀ i ys, p.2 i = some ys → ∃ r, Y i = some (ys ++ r)
theorem pInt_ok {d : D} {x : Int} {p : St} (h0 : (pInt d x p).1 = 0) : chkI d = 0 ∧ pInt d x p = putN d x p ∧ -2147483647 ≤ x ∧ x ≤ 2147483647 := by
  have hck : chkI d = 0 := by
    by_cases h : chkI d = 0
    · exact h
    · exfalso
      unfold pInt at h0
      rw [if_neg h] at h0
      exact h h0
  have e0 : pInt d x p = putN d x p := if_pos hck
  refine ⟨hck, e0, ?_⟩
  rw [e0] at h0
  have hx : ¬ (x < -2147483647 ∨ 2147483647 < x) := fun h => by
    unfold putN at h0
    rw [if_pos h] at h0
    exact absurd (show (2 : Int) = 0 from h0) (by decide)
  omega
theorem int_took {zs : List Int} {Y : Nat → Option (List Int)} {d : D} {x fr up n e : Int} {p : St} {s s' : BS} {G G' : Rs} (hat : AtL zs Y p s G) (h0 : (pInt d x p).1 = 0) (hp : Sub (pInt d x p).2 zs Y) (hw : NumR d s G fr up n e s' G') (hfr : fr ≤ x) (hup : x ≤ up) :
    n = x ∧ e = 0 ∧ AtL zs Y (pInt d x p).2 s' G' := by
  obtain ⟨hrow, hblk⟩ := hat
  subst hrow
  subst hblk
  obtain ⟨hck, e0, hx⟩ := pInt_ok h0
  rw [e0] at h0 hp ⊢
  clear e0
  obtain ⟨m, e1, hn, hc⟩ := hw
  have key : m = x ∧ e1 = 0 ∧ AtL zs Y (putN d x p).2 s' G' := by
    unfold putN at h0 hp ⊢
    rw [if_neg (show ¬ (x < -2147483647 ∨ 2147483647 < x) by omega)] at h0 hp ⊢
    rcases hn with ⟨h1, _⟩ | ⟨_, hK, rfl, ho⟩ | ⟨_, hK, rfl, y, ht, hy⟩ | ⟨_, hK, rfl, rfl, hy⟩
    · exact absurd hck h1
    · rw [if_pos hK] at h0 hp ⊢
      obtain ⟨r, hr⟩ := hp.2 d.B.toNat _ (show pc p.2 d.B.toNat (hadP p.2 d.B.toNat ++ encInt (sg x)) d.B.toNat = some _ from if_pos rfl)
      unfold OutR at ho
      simp only [hr, Option.map_some] at ho
      have hd : (hadP p.2 d.B.toNat ++ encInt (sg x) ++ r).drop (hadP p.2 d.B.toNat).length = encInt (sg x) ++ r := by simp
      obtain ⟨s1, s2, s3⟩ := sign_sg (n := x) (by omega) (by omega)
      rw [int_back hd s2 s3] at ho
      obtain ⟨rfl, rfl, rfl⟩ := ho
      refine ⟨s1, rfl, rfl, funext fun i => ?_⟩
      simp only
      unfold ru
      rw [hadP_pc]
      by_cases hi : i = d.B.toNat
      · rw [if_pos hi, if_pos hi, hi, hr]
        simp
      · rw [if_neg hi, if_neg hi]
    · rw [if_neg (by rw [hK]; decide), if_pos hK] at h0 hp ⊢
      unfold putW at h0 hp ⊢
      have hw : newE d.L = 0 := by simpa [chkI, hK] using hck
      cases hf : Hu.found (wordsOf (nats' d.L)) x with
      | none =>
        rw [hf] at h0
        exact absurd h0 (by simp)
      | some q =>
        simp only [hf] at h0 hp ⊢
        obtain ⟨hlen, herr, hpos⟩ := newE_zero hw
        have hm := Hu.found_mem hf
        have h2 := (words_spec (nats' d.L) (right_of herr).sizes hpos).1 _ hm
        obtain ⟨⟨r, hr⟩, _⟩ := hp
        have hnx : NextIs ⟨zs, p.1.length, false⟩ q.1 q.2 := next_piece (a := p.1) (r := r) (by rw [← List.append_assoc]; exact hr) rfl h2.2
        rcases ht with ⟨z, v, hzv, _, hnz, rfl⟩ | ⟨hno, _⟩
        · have he := word_one (right_of herr).sizes hpos hzv hm hnz hnx
          simp only [Prod.mk.injEq] at he
          obtain ⟨hy1, hz, _⟩ := he
          rcases hy with ⟨h, _⟩ | ⟨_, rfl, rfl⟩
          · cases h
          · exact ⟨hy1, rfl, by rw [List.length_append, tb_len, hz], rfl⟩
        · rcases hno with h | h
          · cases h
          · exact absurd hnx (h _ hm)
    · rw [if_neg (by rw [hK]; decide), if_neg (by rw [hK]; decide)] at h0 hp ⊢
      unfold Qu.putF at h0 hp ⊢
      by_cases hq : x - d.le < 0 ∨ 2 ^ d.bi.toNat ≤ x - d.le
      · rw [if_pos hq] at h0
        exact absurd (show (2 : Int) = 0 from h0) (by decide)
      rw [if_neg hq] at h0 hp ⊢
      obtain ⟨⟨r, hr⟩, _⟩ := hp
      have hv : (x - d.le).toNat < 2 ^ d.bi.toNat := by
        have h1 : x - d.le < 2 ^ d.bi.toNat := by omega
        have h2 : ((2 ^ d.bi.toNat : Nat) : Int) = 2 ^ d.bi.toNat := by simp
        omega
      have hnx : NextIs ⟨zs, p.1.length, false⟩ d.bi.toNat (x - d.le).toNat := next_piece (a := p.1) (r := r) (by rw [← List.append_assoc]; exact hr) rfl hv
      have htk : (⟨zs, p.1.length, false⟩ : BS).take d.bi.toNat = ((x - d.le).toNat, ⟨zs, p.1.length + d.bi.toNat, false⟩) := by rw [take_near rfl hnx.1, hnx.2]
      rw [htk] at hy ⊢
      rcases hy with ⟨h, _⟩ | ⟨_, rfl, rfl⟩
      · cases h
      · exact ⟨by simp only; omega, rfl, by rw [List.length_append, tb_len], rfl⟩
  obtain ⟨rfl, rfl, hA⟩ := key
  rcases hc with ⟨h, _⟩ | ⟨_, h, _⟩ | ⟨_, _, _, rfl, rfl⟩
  · exact absurd rfl h
  · omega
  · exact ⟨rfl, rfl, hA⟩
theorem within_took {zs : List Int} {Y : Nat → Option (List Int)} {d : D} {x fr up n e : Int} {p : St} {s s' : BS} {G G' : Rs} (hat : AtL zs Y p s G) (h0 : (pInt d x p).1 = 0) (hp : Sub (pInt d x p).2 zs Y) (hw : WithinR d s G 0 fr up n e s' G') (hfr : fr ≤ x) (hup : x ≤ up) :
    n = x ∧ e = 0 ∧ AtL zs Y (pInt d x p).2 s' G' := by
  rcases hw with ⟨h, _⟩ | ⟨_, s1, hn, hs⟩
  · exact absurd rfl h
  obtain ⟨_, _, h1, h2⟩ := pInt_ok h0
  obtain ⟨rfl, rfl, h3⟩ := int_took hat h0 hp hn (by omega) (by omega)
  refine ⟨rfl, rfl, ?_⟩
  rw [hs]
  exact h3
theorem find_stop {S : Int} {r : List Int} : ∀ {bs : List Int}, S ∉ bs → (bs ++ S :: r).findIdx (· == S) = bs.length
  | [], _ => by simp [List.findIdx_cons]
  | x :: l, h => by
    have h1 : x ≠ S := fun e => h (by simp [e])
    have h2 := find_stop (S := S) (r := r) (bs := l) (fun e => h (List.mem_cons_of_mem x e))
    rw [List.cons_append, List.findIdx_cons, h2, show (x == S) = false by simpa using h1]
    rfl
theorem arr_took {zs : List Int} {Y : Nat → Option (List Int)} {a : E} {bs ys : List Int} {e : Int} {p : St} {s s' : BS} {G G' : Rs} (hat : AtL zs Y p s G) (h0 : (pArr a bs p).1 = 0) (hp : Sub (pArr a bs p).2 zs Y) (hlen : bs.length ≤ 1048576) (hw : ArrR a s G 0 ys e s' G') :
    ys = bs ∧ e = 0 ∧ AtL zs Y (pArr a bs p).2 s' G' := by
  rcases hw with ⟨h, _⟩ | ⟨_, s1, hb, hs⟩
  · exact absurd rfl h
  have hck : chkA a = 0 := by
    by_cases h : chkA a = 0
    · exact h
    · exfalso
      unfold pArr at h0
      rw [if_neg h] at h0
      exact h h0
  have key : ys = bs ∧ e = 0 ∧ AtL zs Y (pArr a bs p).2 s1 G' := by
    unfold pArr at h0 hp ⊢
    rw [if_pos hck] at h0 hp ⊢
    rcases hb with ⟨h1, _⟩ | ⟨_, hK, m, e1, G1, hn, hc⟩ | ⟨_, hK, hs1, hg⟩
    · exact absurd hck h1
    · rw [if_neg (by rw [hK]; decide)] at h0 hp ⊢
      unfold pCnt at h0 hp ⊢
      by_cases h1 : (pInt a.d bs.length p).1 = 0
      · rw [if_pos h1] at h0 hp ⊢
        obtain ⟨hp1, hp2⟩ := hp
        obtain ⟨r, hr⟩ := hp2 a.B.toNat _ (show pc _ a.B.toNat _ a.B.toNat = some _ from if_pos rfl)
        have hsub : Sub (pInt a.d bs.length p).2 zs Y := by
          refine ⟨hp1, fun i zs' hi => ?_⟩
          by_cases hib : i = a.B.toNat
          · subst hib
            have h3 : hadP (pInt a.d bs.length p).2.2 a.B.toNat = zs' := by unfold hadP; rw [hi]; rfl
            rw [h3] at hr
            exact ⟨bs ++ r, by rw [← List.append_assoc]; exact hr⟩
          · exact hp2 i zs' (show (if i = a.B.toNat then _ else _) = _ by rw [if_neg hib]; exact hi)
        obtain ⟨h4, h5, hrow, hblk⟩ := int_took hat h1 hsub hn (by omega) (by omega)
        subst h4
        subst h5
        rcases hc with ⟨h, _⟩ | ⟨_, hg⟩
        · exact absurd rfl h
        · have hG : G1 a.B.toNat = some ⟨hadP (pInt a.d bs.length p).2.2 a.B.toNat ++ bs ++ r, (hadP (pInt a.d bs.length p).2.2 a.B.toNat).length, 0⟩ := by
            rw [hblk]
            simp only [hr, Option.map_some]
          have hmany : RS.many ⟨hadP (pInt a.d bs.length p).2.2 a.B.toNat ++ bs ++ r, (hadP (pInt a.d bs.length p).2.2 a.B.toNat).length, 0⟩ (bs.length : Int) = (bs, ⟨hadP (pInt a.d bs.length p).2.2 a.B.toNat ++ bs ++ r, (hadP (pInt a.d bs.length p).2.2 a.B.toNat).length + bs.length, 0⟩) := by
            unfold RS.many
            rw [if_pos rfl, if_pos (by simp only [List.length_append]; omega)]
            simp
          unfold GetR at hg
          rw [hG] at hg
          simp only [hmany] at hg
          obtain ⟨rfl, rfl, rfl⟩ := hg
          refine ⟨rfl, rfl, hrow, funext fun i => ?_⟩
          simp only
          unfold ru
          rw [hadP_pc]
          by_cases hi : i = a.B.toNat
          · rw [if_pos hi, if_pos hi, hi, hr]
            simp
          · rw [if_neg hi, if_neg hi, hblk]
      · rw [if_neg h1] at h0
        exact absurd h0 h1
    · rw [if_pos hK] at h0 hp ⊢
      unfold pStop at h0 hp ⊢
      by_cases hS : a.S ∈ bs
      · rw [if_pos hS] at h0
        exact absurd (show (4 : Int) = 0 from h0) (by decide)
      rw [if_neg hS] at h0 hp ⊢
      obtain ⟨hrow, hblk⟩ := hat
      obtain ⟨r, hr⟩ := hp.2 a.B.toNat _ (show pc p.2 a.B.toNat _ a.B.toNat = some _ from if_pos rfl)
      have hG : G a.B.toNat = some ⟨hadP p.2 a.B.toNat ++ bs ++ [a.S] ++ r, (hadP p.2 a.B.toNat).length, 0⟩ := by
        rw [hblk]
        simp only [hr, Option.map_some]
      have hdr : (hadP p.2 a.B.toNat ++ bs ++ [a.S] ++ r).drop (hadP p.2 a.B.toNat).length = bs ++ a.S :: r := by simp
      have hup : RS.upto ⟨hadP p.2 a.B.toNat ++ bs ++ [a.S] ++ r, (hadP p.2 a.B.toNat).length, 0⟩ a.S = (bs, ⟨hadP p.2 a.B.toNat ++ bs ++ [a.S] ++ r, (hadP p.2 a.B.toNat).length + bs.length + 1, 0⟩) := by
        unfold RS.upto
        simp only [hdr, find_stop hS]
        simp
      unfold GetR at hg
      rw [hG] at hg
      simp only [hup] at hg
      obtain ⟨rfl, rfl, rfl⟩ := hg
      refine ⟨rfl, rfl, by rw [hs1, hrow], funext fun i => ?_⟩
      simp only
      unfold ru
      rw [hadP_pc]
      by_cases hi : i = a.B.toNat
      · rw [if_pos hi, if_pos hi, hi, hr]
        simp [Nat.add_assoc]
      · rw [if_neg hi, if_neg hi, hblk]
  obtain ⟨rfl, rfl, h3⟩ := key
  refine ⟨rfl, rfl, ?_⟩
  rw [hs]
  exact h3
end Go.Proofs.YtgaofnmgdefdcaaGreatDoor.Le

namespace Go.Proofs.YtgaofnmgdefdcaaGreatDoor.Le
open Go.RowKit Go.Proofs.YtgaofnmgdefdcaaGreatDoor.Gen Go.Proofs.YtgaofnmgdefdcaaGreatDoor.Mp Go.Proofs.YtgaofnmgdefdcaaGreatDoor.Cm Go.Proofs.YtgaofnmgdefdcaaGreatDoor.Hr Go.Proofs.YtgaofnmgdefdcaaGreatDoor.Hn Go.Proofs.YtgaofnmgdefdcaaGreatDoor.Hk Go.Proofs.YtgaofnmgdefdcaaGreatDoor.Ln Go.Proofs.YtgaofnmgdefdcaaGreatDoor.Ds Go.Proofs.YtgaofnmgdefdcaaGreatDoor.Ky Go.Proofs.YtgaofnmgdefdcaaGreatDoor.Wr Go.Proofs.YtgaofnmgdefdcaaGreatDoor.Ir Go.Proofs.YtgaofnmgdefdcaaGreatDoor.Br Go.Proofs.YtgaofnmgdefdcaaGreatDoor.Qh Go.Proofs.YtgaofnmgdefdcaaGreatDoor.Qs Go.Proofs.YtgaofnmgdefdcaaGreatDoor.Qf Go.Proofs.YtgaofnmgdefdcaaGreatDoor.Qc Go.Proofs.YtgaofnmgdefdcaaGreatDoor.Qk

theorem key_cell {w : World} {base n c j N : Nat} {A : Option Addr} {val : Nat → Option Value} (h : w.ownsRow base 3 1 (.slice A n c) n ((numZ val N).map encZ)) (hn : (nums val N).length = n) (hj : j < n) :
    ∃ g, A = some ⟨g, 0, none⟩ ∧ w.cell? ⟨g, j, none⟩ = some (.int .i64 (((nums val N).getD j 0 : Nat) : Int)) ∧ base ≤ g ∧ g < w.heap.size := by
  rcases h.2 with ⟨h1, hn1⟩ | ⟨g, cap, cur, hv, hb', hh, _⟩
  · omega
  · injection hv with hv _ _
    subst hv
    have hlt := (show Blk w g 3 cur from hh).lt
    have hat : ((numZ val N).map encZ)[j]? = some (.int .i64 (((nums val N).getD j 0 : Nat) : Int)) := by
      unfold numZ
      rw [List.map_map, List.getElem?_map, List.getD_eq_getElem?_getD, List.getElem?_eq_getElem (by omega)]
      rfl
    have hc := h.cells (g := g) rfl j _ hat
    rw [add_none, Nat.zero_add] at hc
    exact ⟨g, rfl, hc, hb', hlt⟩
theorem field_ir (g' : Nat) (w : World) : (Instr.field 110 (.agg #[.pointer (some ⟨g', 0, none⟩)]) 0).run Tryz.prog w = .ok (.pointer (some ⟨g', 0, none⟩)) w := by
  simp [go_sem, Instr.field, asAgg]
/-- What End answers. -/
def EndR (s : BS) (G : Rs) (e E : Int) : Prop :=
  (e ≠ 0 ∧ E = e) ∨ (e = 0 ∧ s.fin ≠ 0 ∧ E = s.fin) ∨ (e = 0 ∧ s.fin = 0 ∧ ((E = 0 ∧ ∀ i r, G i = some r → r.fin = 0) ∨ ∃ i r, G i = some r ∧ r.fin ≠ 0 ∧ E = r.fin))

set_option maxHeartbeats 8000000 in
set_option maxRecDepth 100000 in
theorem end_z {B g N : Nat} {F : Nat → Prop} {s : BS} {G : Rs} {er : Int} (w : World) (h : Lz B g F s G N er w) :
    Calls Tryz.prog 27 #[.pointer (some ⟨g, 0, none⟩)] w fun r w' => ∃ E, r = .returned (.int .i64 E) ∧ EndR s G er E ∧ Keeps (fun _ => False) w w' := by
  have HE := Lib.hid (err_ w h)
  by_cases h0 : er = 0
  · subst h0
    obtain ⟨o, br, bb, mb, mc, P, hln, hF⟩ := h
    have hc0 := hln.blk.cell 0
    have hc1 := hln.blk.cell 1
    simp only [List.getElem?_toArray, List.getElem?_cons_zero, List.getElem?_cons_succ] at hc0 hc1
    have HBE := Lib.hid (Br.end_ br s bb w hln.row)
    have HLN := Lib.hid hln
    have HR0 : Hid (∀ E, s.fin ≠ 0 → E = s.fin → EndR s G 0 E) := fun E h1 h2 => .inr (.inl ⟨rfl, h1, h2⟩)
    have HR1 : Hid (s.fin = 0 → (∀ i r, G i = some r → r.fin = 0) → EndR s G 0 0) := fun h1 h2 => .inr (.inr ⟨rfl, h1, .inl ⟨rfl, h2⟩⟩)
    have HR2 : Hid (∀ i r, s.fin = 0 → G i = some r → r.fin ≠ 0 → EndR s G 0 r.fin) := fun i r h1 h2 h3 => .inr (.inr ⟨rfl, h1, .inr ⟨i, r, h2, h3, rfl⟩⟩)
    generalize EndR s G 0 = R at HR0 HR1 HR2 ⊢
    obtain ⟨fi, hfi⟩ : ∃ fi, s.fin = fi := ⟨_, rfl⟩
    rw [hfi] at HBE HR0 HR1 HR2
    clear hln hF hfi
    go_enter Tryz.func27, Tryz.ntmps27
    go_wp2_with fail
    refine HE.out.mono ?_
    rintro r w1 ⟨rfl, hw1⟩
    rw [hw1]
    clear HE hw1
    go_wp2_with fail
    refine HBE.out.mono ?_
    rintro r w1 ⟨rfl, nd, rfl⟩
    clear HBE
    have HK1 : Hid (Keeps (fun _ => False) w (w.drewN nd)) := (Keeps.refl _ _).drewN nd
    by_cases hf : fi = 0
    · subst hf
      have HK := Lib.hid keysB
      have HLN1 := Lib.hid (HLN.out.keeps HK1.out fun _ _ => id)
      have hk2 := HK1.out.alloc (.cells #[.map (some mb)] 105)
      have HS := Lib.hid (sortedB int_ks (fun i _ => rfl) (by omega) (w.drewN nd).heap.size mb (fun i => (G i).map fun _ => rd (P i).2) ((w.drewN nd).alloc (.cells #[.map (some mb)] 105)) (by simp) ((Blk.new (w.drewN nd) 105 #[.map (some mb)]).cell 0) (HLN.out.map.keeps hk2 id))
      have HK2 := Lib.hid hk2
      obtain ⟨l, hl⟩ : ∃ l, nums (fun i => (G i).map fun _ => rd (P i).2) 60001 = l := ⟨_, rfl⟩
      obtain ⟨n, hn⟩ : ∃ n, l.length = n := ⟨_, rfl⟩
      have HL := Lib.hid hl
      have HN := Lib.hid hn
      rw [hl, hn] at HS
      clear hk2 hl hn
      go_wp2_with (first
        | (go_at_call 52; refine (HK.out (some mb) _).mono ?_; rintro r w1 ⟨rfl, rfl⟩)
        | (have H := HS; go_at_call 43; refine H.out.mono ?_; rintro r w2 ⟨v2, rfl, ho2, hk2⟩; obtain ⟨A2, c2, rfl, hle2⟩ := own_form ho2; have HK3 := Lib.hid (HK2.out.trans hk2); have HO := Lib.hid ho2; clear hk2 ho2 HS))
      have HN1 : Hid (n ≤ 60001) := by
        have h1 := HN.out
        rw [← HL.out] at h1
        have h2 : (nums (fun i => (G i).map fun _ => rd (P i).2) 60001).length ≤ 60001 := Nat.le_trans (List.length_filter_le _ _) (by simp)
        show n ≤ 60001
        omega
      clear hc0 HLN1
      go_loopw [28] (fun iv wr => ∃ j : Nat, iv = .int .i64 (j : Int) ∧ j ≤ n ∧ Hid (Keeps (fun _ => False) w2 wr ∧ ∀ k, k < j → ∀ r, G (l.getD k 0) = some r → r.fin = 0)) (fun iv _ => n - (intOf iv).toNat)
      case atStart => exact ⟨0, rfl, by omega, Keeps.refl _ _, fun k hk => by omega⟩
      case round =>
        obtain ⟨j, rfl, hj, HI⟩ := hrel
        by_cases hlt : j < n
        · obtain ⟨gk, rfl, hck, hbk, hlk⟩ := key_cell HO.out (by rw [HL.out]; exact HN.out) hlt
          rw [HL.out] at hck
          obtain ⟨i, hi⟩ : ∃ i, l.getD j 0 = i := ⟨_, rfl⟩
          rw [hi] at hck
          have hm : i ∈ l := by
            rw [← hi, List.getD_eq_getElem?_getD, List.getElem?_eq_getElem (by have := HN.out; omega)]
            exact List.getElem_mem _
          obtain ⟨hi1, hi2⟩ := nums_mem.1 (by rw [HL.out]; exact hm : i ∈ nums (fun i => (G i).map fun _ => rd (P i).2) 60001)
          obtain ⟨r, hr⟩ : ∃ r, G i = some r := by
            cases hG : G i with
            | none => exact absurd (by simp [hG]) hi2
            | some r => exact ⟨r, rfl⟩
          have hkW : Keeps (fun _ => False) w wr := HK3.out.trans HI.out.1
          have hlr := HLN.out.keeps hkW fun _ _ => id
          have hc1r : wr.cell? ⟨g, 1, none⟩ = some (.map (some mb)) := hlr.blk.cell 1
          have hckr : wr.cell? ⟨gk, j, none⟩ = some (.int .i64 (i : Int)) := (HI.out.1.cell (p := ⟨gk, j, none⟩) hlk id).trans hck
          have hlk2 := ((hlr.map.look int_ks Tryz.underlying105 (zero_ir wr) hi1).1 (rd (P i).2) (by rw [hr]; rfl)).1
          unfold ikv rd at hlk2
          obtain ⟨g', hg'⟩ : ∃ g', (P i).2 = g' := ⟨_, rfl⟩
          rw [hg'] at hlk2
          have HEN := Lib.hid (Wr.end_ (P i).2 r (P i).1 wr (hlr.rds i r hr).2.1)
          rw [hg'] at HEN
          have hfld := field_ir g'
          have hj0 : (0 : Int) ≤ (j : Int) := by omega
          have hj1 : (j : Int) < (n : Int) := by omega
          have hjw : IntKind.i64.wrap ((j : Int) + 1) = (j : Int) + 1 := IntWalk.i64_in _ (by have := HN1.out; omega)
          have HII := Lib.hid hi
          have HRI := Lib.hid hr
          clear hi hm hi1 hi2 hr hlr hg' hkW
          go_wp2_with fail
          refine HEN.out.mono ?_
          rintro r2 w5 ⟨rfl, nd2, rfl⟩
          clear HEN
          by_cases hf : r.fin = 0
          · rw [hf]
            go_wp2
            refine ⟨⟨j + 1, by go_num, by omega, HI.out.1.drewN nd2, fun k hk r3 h3 => ?_⟩, by simp [intOf]; omega⟩
            rcases Nat.lt_or_ge k j with hkj | hkj
            · exact HI.out.2 k hkj r3 h3
            · obtain rfl : k = j := by omega
              rw [HII.out, HRI.out] at h3
              injection h3 with h3
              rw [← h3]
              exact hf
          · have hne : (r.fin != 0) = true := by simpa using hf
            go_wp2
            go_ret
            exact ⟨r.fin, rfl, HR2.out i r trivial HRI.out hf, (HK3.out.trans HI.out.1).drewN nd2⟩
        · obtain rfl : j = n := by omega
          go_wp2
          go_ret
          refine ⟨0, rfl, HR1.out trivial fun i r hi => ?_, HK3.out.trans HI.out.1⟩
          have hm : i ∈ l := by
            rw [← HL.out, nums_mem]
            exact ⟨(HLN.out.rds i r hi).1, by rw [hi]; simp⟩
          obtain ⟨k, hk, hke⟩ := List.getElem_of_mem hm
          have h1 := HN.out
          refine HI.out.2 k (by omega) r ?_
          rw [List.getD_eq_getElem?_getD, List.getElem?_eq_getElem hk]
          rw [show (some l[k]).getD 0 = l[k] from rfl, hke]
          exact hi
    · have hne : (fi != 0) = true := by simpa using hf
      go_wp2
      go_ret
      exact ⟨fi, rfl, HR0.out fi hf rfl, HK1.out⟩
  · have hne : (er != 0) = true := by simpa using h0
    clear h
    go_enter Tryz.func27, Tryz.ntmps27
    go_wp2_with fail
    refine HE.out.mono ?_
    rintro r w1 ⟨rfl, rfl⟩
    go_wp2
    go_ret
    exact ⟨er, rfl, .inl ⟨h0, rfl⟩, Keeps.refl _ _⟩
end Go.Proofs.YtgaofnmgdefdcaaGreatDoor.Le

namespace Go.Proofs.YtgaofnmgdefdcaaGreatDoor.Qn
open Go.RowKit Go.Proofs.YtgaofnmgdefdcaaGreatDoor.Gen Go.Proofs.YtgaofnmgdefdcaaGreatDoor.Hr Go.Proofs.YtgaofnmgdefdcaaGreatDoor.Hn Go.Proofs.YtgaofnmgdefdcaaGreatDoor.Ds

/-- The number that is put. -/
def numOf (N wh : Int) (d : D) : Int :=
  if wh % 16 = 0 then N else if d.K = 3 then (d.L.getD (wh % d.L.length).toNat (0, 0)).1 else if d.K = 6 then d.le + (N % 4294967296) % 2 ^ d.bi.toNat else min (max N (-2147483647)) 2147483647
/-- An act's value. -/
def actv (way N wh : Int) (A : Option Addr) (n c : Nat) (arr : Bool) : Array Value := #[.int .u8 way, .int .i64 N, .int .u8 wh, .slice A n c, .bool arr]
theorem and_mask {x : Int} {b : Nat} (h0 : 0 ≤ x) (h1 : x < 4294967296) (hb : b ≤ 31) : bits .and .i64 x (2 ^ b - 1) = x % 2 ^ b := by
  obtain ⟨X, rfl⟩ := Int.eq_ofNat_of_zero_le h0
  have h2 : (2 : Int) ^ b = ((2 ^ b : Nat) : Int) := by simp
  have h3 := Nat.two_pow_pos b
  have h4 : 2 ^ b ≤ 2147483648 := by
    have := Nat.pow_le_pow_right (n := 2) (by decide) hb
    omega
  have h5 : (2 : Int) ^ b - 1 = ((2 ^ b - 1 : Nat) : Int) := by omega
  have hx : X &&& (2 ^ b - 1) = X % 2 ^ b := Nat.and_two_pow_sub_one_eq_mod X b
  have hlt : X % 2 ^ b < 2147483648 := by have := Nat.mod_lt X h3; omega
  rw [h5]
  show IntKind.i64.wrap ((BitVec.ofInt 64 (X : Int) &&& BitVec.ofInt 64 ((2 ^ b - 1 : Nat) : Int)).toNat : Int) = _
  rw [BitVec.toNat_and, ofInt_u64 X (by omega), ofInt_u64 (2 ^ b - 1) (by omega), hx, IntWalk.i64_in _ (by omega), h2]
  omega

set_option maxHeartbeats 8000000 in
set_option maxRecDepth 100000 in
theorem number_ (way N wh : Int) (Ab : Option Addr) (nb cb : Nat) (arr : Bool) (A : Option Addr) (n c : Nat) (d : D) (w : World) (hN : -9223372036854775808 ≤ N ∧ N ≤ 9223372036854775807) (hw : 0 ≤ wh ∧ wh < 256) (hd : chkI d = 0) (hL : Ents w A n d.L) :
    Calls Tryz.prog 14 #[.agg (actv way N wh Ab nb cb arr), .agg (dv A n c d)] w fun r w' => r = .returned (.int .i64 (numOf N wh d)) ∧ Keeps (fun _ => False) w w' := by
  obtain ⟨p, hp⟩ : ∃ p, numOf N wh d = p := ⟨_, rfl⟩
  rw [hp]
  have HP := Lib.hid hp
  have HK : Hid (Keeps (fun _ => False) w ((w.alloc (.cells (actv way N wh Ab nb cb arr) 33)).alloc (.cells (dv A n c d) 43))) := ((Keeps.refl _ _).alloc _).alloc _
  have HLL := Lib.hid (hL.more HK.out)
  have hm : wh.tmod 16 = wh % 16 := Int.tmod_eq_emod_of_nonneg hw.1
  have hci := chkI_in hd
  clear hp hL hd
  obtain ⟨K, Bl, L, le, bi⟩ := d
  unfold actv at HK HLL ⊢
  unfold dv at HK HLL ⊢
  simp only at HK HLL hci ⊢
  by_cases h16 : wh % 16 = 0
  · have HE : Hid (p = N) := by show p = N; rw [← HP.out, numOf, if_pos h16]
    go_enter Tryz.func14, Tryz.ntmps14
    go_wp2
    go_ret
    exact ⟨by rw [HE.out]; rfl, HK.out⟩
  · have h16b : (wh % 16 == 0) = false := by simpa using h16
    have HPE : Hid (p = if K = 3 then (L.getD (wh % L.length).toNat (0, 0)).1 else if K = 6 then le + (N % 4294967296) % 2 ^ bi.toNat else min (max N (-2147483647)) 2147483647) := by show p = _; rw [← HP.out, numOf, if_neg h16]
    clear HP
    by_cases h3 : K = 3
    · subst h3
      have hnew : Hid (newE L = 0) := by
        show newE L = 0
        rcases hci with h | h | h
        · omega
        · exact h.2
        · omega
      have HN0 := Lib.hid (newE_zero hnew.out).1
      have HLN : Hid (L.length = n) := HLL.out.2.1
      have hn1 : 1 ≤ n := by have := HN0.out; have := HLN.out; omega
      have hne1 : ¬ ((n : Int) = 0) := by omega
      have hne2 : ¬ (n = 0) := by omega
      obtain ⟨j, hj⟩ := Int.eq_ofNat_of_zero_le (Int.emod_nonneg wh hne1)
      have hjn : j < n := by have := Int.emod_lt_of_pos wh (show (0 : Int) < n by omega); omega
      have hrem : wh.tmod (n : Int) = (j : Int) := by rw [Int.tmod_eq_emod_of_nonneg hw.1]; exact hj
      have HE : Hid (p = (L.getD j (0, 0)).1) := by
        show p = _
        rw [HPE.out, if_pos rfl, HLN.out, hj, Int.toNat_natCast]
      obtain ⟨b, o, rfl, hb, h0, h1⟩ := g_item HLL.out.1 (j := j) (by rw [HLN.out]; exact hjn)
      obtain ⟨⟨x1, x2⟩, hx⟩ : ∃ q, q = L.getD j (0, 0) := ⟨_, rfl⟩
      rw [← hx] at h0 h1 HE
      simp only at h0 h1 HE
      have hj0 : (0 : Int) ≤ (j : Int) := by omega
      have hj1 : (j : Int) < (n : Int) := by omega
      clear hx hj hci HPE HLL h1 hb hn1
      go_enter Tryz.func14, Tryz.ntmps14
      go_upto_region 4 with fail
      go_region
      all_goals go_wp2
      all_goals go_ret
      all_goals exact ⟨by rw [HE.out]; rfl, HK.out.drewN 1⟩
    · have h3b : (K == 3) = false := by simpa using h3
      by_cases h6 : K = 6
      · subst h6
        have hr : (-2147483647 ≤ le ∧ le ≤ 2147483647) ∧ 0 ≤ bi ∧ bi ≤ 31 := by
          rcases hci with h | h | h
          · omega
          · omega
          · exact h.2
        obtain ⟨b, rfl⟩ := Int.eq_ofNat_of_zero_le hr.2.1
        obtain ⟨u, hu⟩ : ∃ u, N % 4294967296 = u := ⟨_, rfl⟩
        have hu0 : 0 ≤ u ∧ u < 4294967296 := by omega
        obtain ⟨v, hv⟩ : ∃ v, u % 2 ^ b = v := ⟨_, rfl⟩
        have HE : Hid (p = le + v) := by
          show p = _
          rw [HPE.out, if_neg (by decide), if_pos rfl, hu, Int.toNat_natCast, hv]
        have hpw : (2 : Int) ^ b ≤ 2147483648 := by
          have h1 := Nat.pow_le_pow_right (n := 2) (by decide) (show b ≤ 31 by omega)
          have h2 : (2 : Int) ^ b = ((2 ^ b : Nat) : Int) := by simp
          omega
        have hpp : (1 : Int) ≤ 2 ^ b := by
          have h2 : (2 : Int) ^ b = ((2 ^ b : Nat) : Int) := by simp
          have := Nat.two_pow_pos b
          omega
        have hv0 : 0 ≤ v ∧ v < 2147483648 := by
          have h1 := Int.emod_nonneg u (show (2 : Int) ^ b ≠ 0 by omega)
          have h2 := Int.emod_lt_of_pos u (show (0 : Int) < 2 ^ b by omega)
          omega
        have HM := Lib.hid (and_mask (b := b) hu0.1 hu0.2 (by omega))
        obtain ⟨Z, hZ⟩ : ∃ Z, (2 : Int) ^ b = Z := ⟨_, rfl⟩
        have hsh : IntKind.i64.wrap (2 ^ b) = Z := by rw [hZ]; exact IntWalk.i64_in _ (by omega)
        have hsb : IntKind.i64.wrap (Z - 1) = Z - 1 := IntWalk.i64_in _ (by omega)
        have hun : IntKind.u32.wrap N = u := by rw [← hu]; exact IntKind.wrap_u32 N
        have hui : IntKind.i64.wrap u = u := IntWalk.i64_in _ (by omega)
        have hand : bits .and .i64 u (Z - 1) = v := by rw [← hZ, HM.out, hv]
        have hsum : IntKind.i64.wrap (le + v) = le + v := IntWalk.i64_in _ (by omega)
        have hb0 : (0 : Int) ≤ (b : Int) := by omega
        have hbn : ((b : Int)).toNat = b := Int.toNat_natCast b
        have HV : Hid (wrap64 (le + bits .and .i64 u (wrap64 (wrap64 (2 ^ min b 64) - 1))) = le + v) := by
          show wrap64 (le + bits .and .i64 u (wrap64 (wrap64 (2 ^ min b 64) - 1))) = le + v
          have hZ1 : 1 ≤ Z ∧ Z ≤ 2147483648 := by omega
          rw [show min b 64 = b by omega, hZ, show wrap64 Z = Z by unfold wrap64; omega, show wrap64 (Z - 1) = Z - 1 by unfold wrap64; omega, hand]
          unfold wrap64
          omega
        clear hsh hsb hand hsum
        clear hci HPE HLL hu hv hZ hpw hpp HM hr hN hw
        go_enter Tryz.func14, Tryz.ntmps14
        go_upto_region 6 with fail
        go_region
        all_goals go_wp2
        all_goals go_ret
        all_goals exact ⟨by rw [HE.out, ← HV.out]; rfl, HK.out.drewN 1⟩
      · have h6b : (K == 6) = false := by simpa using h6
        have HE : Hid (p = min (max N (-2147483647)) 2147483647) := by show p = _; rw [HPE.out, if_neg h3, if_neg h6]
        obtain ⟨m1, hm1⟩ : ∃ m1, max N (-2147483647) = m1 := ⟨_, rfl⟩
        obtain ⟨m2, hm2⟩ : ∃ m2, min m1 2147483647 = m2 := ⟨_, rfl⟩
        have r1 := fun ts t w => run_mx (P := Tryz.prog) ts t N (-2147483647) m1 hm1 w
        have r2 := fun ts t w => run_mini (P := Tryz.prog) ts t m1 2147483647 m2 hm2 w
        have HE2 : Hid (p = m2) := by show p = m2; rw [HE.out, hm1, hm2]
        clear hm1 hm2
        go_enter Tryz.func14, Tryz.ntmps14
        go_wp2
        go_ret
        exact ⟨by rw [HE2.out]; rfl, HK.out⟩
end Go.Proofs.YtgaofnmgdefdcaaGreatDoor.Qn
