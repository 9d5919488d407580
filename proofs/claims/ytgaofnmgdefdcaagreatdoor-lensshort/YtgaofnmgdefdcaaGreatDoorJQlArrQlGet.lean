/- quill.Array and stopped: what they answer, what they put: any way, any bytes. The condition: strconv's table of tens reads as its text lays it. -/
/- A block, or the row of bits, cut short: plain facts of LensShort. Names no function of the program. -/
/- quill.New, Row, Blocks, Block; a nil Quill. No conditions. -/
import Derived.Test.YtgaofnmgdefdcaaGreatDoorJQlIntLnNext
import Derived.Test.YtgaofnmgdefdcaaGreatDoorJWireTakeSrtShelf
import Derived.Test.YtgaofnmgdefdcaaGreatDoorJDsTkPDsPutA
import Derived.Test.YtgaofnmgdefdcaaGreatDoorJLnActLnArr
import Derived.Test.YtgaofnmgdefdcaaGreatDoorJDsAnyDsBack
import Derived.Test.YtgaofnmgdefdcaaGreatDoorJQlFindQlInto
import Derived.Test.YtgaofnmgdefdcaaGreatDoorJQlStpQlSrt

namespace Go.Proofs.YtgaofnmgdefdcaaGreatDoor.Qu
open Go.RowKit Go.Proofs.YtgaofnmgdefdcaaGreatDoor.Ww Go.Proofs.YtgaofnmgdefdcaaGreatDoor.Gen Go.Proofs.YtgaofnmgdefdcaaGreatDoor.Mp Go.Proofs.YtgaofnmgdefdcaaGreatDoor.Cm Go.Proofs.YtgaofnmgdefdcaaGreatDoor.Hr Go.Proofs.YtgaofnmgdefdcaaGreatDoor.Hn Go.Proofs.YtgaofnmgdefdcaaGreatDoor.Hk Go.Proofs.YtgaofnmgdefdcaaGreatDoor.Ln Go.Proofs.YtgaofnmgdefdcaaGreatDoor.Ds Go.Proofs.YtgaofnmgdefdcaaGreatDoor.Ky Go.Proofs.YtgaofnmgdefdcaaGreatDoor.It Go.Proofs.YtgaofnmgdefdcaaGreatDoor.Ib Go.Proofs.YtgaofnmgdefdcaaGreatDoor.Bp Go.Proofs.YtgaofnmgdefdcaaGreatDoor.Qh Go.Proofs.YtgaofnmgdefdcaaGreatDoor.Qs Go.Proofs.YtgaofnmgdefdcaaGreatDoor.Qf Go.Proofs.YtgaofnmgdefdcaaGreatDoor.Qc Go.Proofs.YtgaofnmgdefdcaaGreatDoor.Qi

def pStop (a : E) (bs : List Int) (s : St) : Int × St := if a.S ∈ bs then (4, s) else (0, (s.1, pc s.2 a.B.toNat (hadP s.2 a.B.toNat ++ bs ++ [a.S])))
def pCnt (a : E) (bs : List Int) (s : St) : Int × St := if (pInt a.d bs.length s).1 = 0 then (0, ((pInt a.d bs.length s).2.1, pc (pInt a.d bs.length s).2.2 a.B.toNat (hadP (pInt a.d bs.length s).2.2 a.B.toNat ++ bs))) else pInt a.d bs.length s
def pArr (a : E) (bs : List Int) (s : St) : Int × St := if chkA a = 0 then (if a.K = 5 then pStop a bs s else pCnt a bs s) else (chkA a, s)

theorem hadP_pc (f : Nat → Option (List Int)) (i j : Nat) (ys : List Int) : hadP (pc f i ys) j = if j = i then ys else hadP f j := by
  unfold hadP pc
  split <;> rfl
theorem pInt_len (d : D) (x : Int) (s : St) : (pInt d x s).2.1.length ≤ s.1.length + 32 ∧ ∀ j, (hadP (pInt d x s).2.2 j).length ≤ (hadP s.2 j).length + 9 := by
  have h0 : s.1.length ≤ s.1.length + 32 ∧ ∀ j, (hadP s.2 j).length ≤ (hadP s.2 j).length + 9 := ⟨by omega, fun j => by omega⟩
  unfold pInt
  split
  · rename_i hc
    unfold putN
    split
    · exact h0
    · split
      · refine ⟨by simp, fun j => ?_⟩
        simp only [hadP_pc]
        split
        · rename_i hj
          subst hj
          have := (encInt_len (sg x)).2
          rw [List.length_append]
          omega
        · omega
      · split
        · rename_i h3
          unfold putW
          split
          · exact h0
          · rename_i p hp
            have hw : newE d.L = 0 := by simpa [chkI, h3] using hc
            have := word_fits hw hp
            refine ⟨?_, h0.2⟩
            simp only [List.length_append, tb_len]
            omega
        · unfold putF
          rename_i h1 h3
          split
          · exact h0
          · refine ⟨?_, h0.2⟩
            rcases chkI_in hc with h | h | ⟨_, _, hb⟩
            · exact absurd h.1 h1
            · exact absurd h.1 h3
            · simp only [List.length_append, tb_len]
              omega
  · exact h0

theorem lies_keeps {S : Nat → Prop} {w w1 : World} {A : Option Addr} {xs : List Int} (h : Lies w A xs) (k : Keeps S w w1) (hn : xs ≠ [] → ∀ b o, A = some ⟨b, o, none⟩ → ¬ S b) : Lies w1 A xs := by
  by_cases h0 : xs = []
  · exact .inl h0
  · exact h.keeps k (hn h0)

set_option maxHeartbeats 16000000 in
set_option maxRecDepth 100000 in
theorem stopped_ (B g : Nat) (F : Nat → Prop) (l : List Nat) (G : Gs) (N : Nat) (A : Option Addr) (n c : Nat) (a : E) (A2 : Option Addr) (m c2 : Nat) (bs : List Int) (w : World)
    (hB : B ≤ w.heap.size) (hq : Ql F B g l G N w) (hG : ∀ i, (had G i).length + m + 1 ≤ 1000000) (hb1 : 1 ≤ a.B ∧ a.B ≤ 60000) (hS : 0 ≤ a.S ∧ a.S < 256)
    (hm : bs.length = m) (h02 : A2 = none → c2 = 0) (hl : Lies w A2 bs) (hby : ∀ y ∈ bs, 0 ≤ y ∧ y < 256) (hE : bs ≠ [] → ∀ b o, A2 = some ⟨b, o, none⟩ → ¬ F b) :
    Calls Tryz.prog 33 #[.pointer (some ⟨g, 0, none⟩), .agg (av A n c a), .slice A2 m c2] w fun r w' => Did B g N F (pStop a bs (l, cont G)) w w' r := by
  obtain ⟨q, hqe⟩ : ∃ q, q = w.heap.size := ⟨_, rfl⟩
  obtain ⟨W, hW⟩ : ∃ W, W = w.alloc (.cells (av A n c a) 45) := ⟨_, rfl⟩
  have hk1 : Keeps (fun _ => False) w W := by rw [hW]; exact (Keeps.refl _ _).alloc _
  have HBX : Hid (Blk W q 45 (av A n c a)) := by show Blk _ _ _ _; rw [hW, hqe]; exact Blk.new _ _ _
  obtain ⟨Fb, Fc, v, mb, mc, h⟩ := hq.more hk1
  have hqF : ∀ k, F k → k ≠ q := fun k hk e => by
    have := hq.lt k hk
    omega
  obtain ⟨i, hi⟩ := Int.eq_ofNat_of_zero_le (show 0 ≤ a.B by omega)
  obtain ⟨last, o, hb, hr⟩ := row_cells h.row
  have HIN := Lib.hid (into_ g 77 #[v, .int .u64 last, .int .i64 o, mb, mc] Fb mb G i W (by omega) hb rfl h.ing.2.1 h.wms)
  have HK1 := Lib.hid hk1
  have HH := Lib.hid h
  have HR := Lib.hid hr
  have HQF := Lib.hid hqF
  have HBW : Hid (B ≤ W.heap.size) := Nat.le_trans hB hk1.size
  have HGL := Lib.hid hG
  have HE := Lib.hid hE
  have HLI := Lib.hid (hl.keeps hk1 fun _ _ _ => id)
  have HMM := Lib.hid hm
  have HIX := Lib.hid (fun w => Wr.index A2 m c2 bs a.S w hm)
  obtain ⟨p, hp⟩ : ∃ p, pStop a bs (l, cont G) = p := ⟨_, rfl⟩
  rw [hp]
  have HP : Hid (p = if a.S ∈ bs then (4, (l, cont G)) else (0, (l, pc (cont G) i (hadP (cont G) i ++ bs ++ [a.S])))) := by show p = _; rw [← hp, pStop, hi]; rfl
  have HQG : Hid (∀ k, F k → k < W.heap.size) := h.lt
  obtain ⟨k0, hk0, hk0m⟩ : ∃ k0, Lib.indexByte (Lib.bytesOf bs) a.S.toNat.toUInt8 = k0 ∧ (0 ≤ k0 ↔ a.S ∈ bs) := by
    refine ⟨_, Wr.index_eq a.S hS bs hby, ?_⟩
    split
    · rename_i hlt
      refine ⟨fun _ => ?_, fun _ => by omega⟩
      obtain ⟨y, hy, e⟩ := List.findIdx_lt_length.1 hlt
      rw [← beq_iff_eq.1 e]
      exact hy
    · rename_i hlt
      refine ⟨fun h => by omega, fun hy => absurd (List.findIdx_lt_length.2 ⟨_, hy, by simp⟩) hlt⟩
  rw [hk0] at HIX
  have HK0 := Lib.hid hk0m
  clear hp hk1 h hb hr hqF hG hE hl hq hm hk0 hk0m
  obtain ⟨⟨K, Bl, L, le, bi⟩, K2, B2, S2⟩ := a
  simp only at hi hb1 hS HIX HP HK0
  subst hi
  unfold av at HBX hW ⊢
  simp only at HBX hW ⊢
  have x6 := HBX.out.cell 6
  have x7 := HBX.out.cell 7
  simp only [List.getElem?_toArray, List.getElem?_cons_zero, List.getElem?_cons_succ] at x6 x7
  by_cases hin : S2 ∈ bs
  · have h0 : 0 ≤ k0 := HK0.out.2 hin
    have HPE : Hid (p = (4, (l, cont G))) := by show p = _; rw [HP.out, if_pos hin]
    clear HP HK0
    go_enter Tryz.func33, Tryz.ntmps33
    go_upto_region 1 with fail
    rw [← hqe, ← hW]
    clear hqe hW
    go_wp2_with (go_at_call 60; refine (HIX.out _ HLI.out).mono ?_; rintro r w1 ⟨rfl, rfl⟩)
    go_ret
    rw [HPE.out]
    exact ⟨F, G, rfl, ⟨_, _, _, _, _, HH.out⟩, rfl, Step.quiet HK1.out⟩
  · have h0 : ¬ 0 ≤ k0 := fun h => hin (HK0.out.1 h)
    have h0' : k0 < 0 := by omega
    have HPE : Hid (p = (0, (l, pc (cont G) i (hadP (cont G) i ++ bs ++ [S2])))) := by show p = _; rw [HP.out, if_neg hin]
    clear HP HK0
    go_enter Tryz.func33, Tryz.ntmps33
    go_upto_region 1 with fail
    rw [← hqe, ← hW]
    clear hqe hW
    go_wp2_with (go_at_call 60; refine (HIX.out _ HLI.out).mono ?_; rintro r w1 ⟨rfl, rfl⟩)
    refine HIN.out.mono ?_
    rintro r w2 ⟨gi, vi, mb', Fb', rfl, j1, j2, j3, j4⟩
    have J := Lib.hid (HH.out.wms' HBW.out HR.out (by exact j1) j2 j3 j4)
    obtain ⟨hwr, hits⟩ : IsWr 0 gi vi (had G i) w2 ∧ ∀ k, Its gi vi k → Fb' k := by
      rcases j3.2 with ⟨_, hn⟩ | ⟨b, _, hm⟩
      · have := hn i
        simp [pu] at this
      · have h1 := hm.wr i _ (pu_at G i _)
        exact ⟨h1.2.1, fun k hk => (h1.2.2 k hk).1⟩
    have hjk := J.out.2.keeps
    have HX2 := Lib.hid (HBX.out.keeps hjk fun e => HQF.out q e rfl)
    have HNI : Hid (¬ Its gi vi q) := fun e => by
      rcases J.out.2.sub q (.inr (.inl (hits q e))) with h1 | h1
      · exact HQF.out q h1 rfl
      · have := HBX.out.lt
        omega
    have HPT := Lib.hid (Ww.put gi 0 vi (had G i) bs A2 m c2 w2 HMM.out h02 hwr (lies_keeps HLI.out hjk HE.out) (by have := HGL.out i; omega))
    clear j1 j2 j3 j4 HIN hwr hits hjk
    go_wp2_with fail
    refine HPT.out.mono ?_
    rintro r w3 ⟨rfl, v1, hw1, hk3, ho3⟩
    have HBY := Lib.hid (Ww.byte gi 0 v1 (had G i ++ bs) S2 w3.drew (hw1.keeps ((Keeps.refl (fun _ => False) w3).drewN 1) fun _ _ => id) (by have := HGL.out i; have := HMM.out; rw [List.length_append]; omega))
    have HX3 := Lib.hid (HX2.out.keeps hk3 HNI.out)
    have HK3 := Lib.hid hk3
    have HO3 := Lib.hid ho3
    have HN1 : Hid (¬ Its gi v1 q) := fun e => by
      rcases e with e | e
      · exact HNI.out (.inl e)
      · rcases ho3 with h1 | ⟨b, h1, h2⟩
        · exact HNI.out (.inr (h1 ▸ e))
        · rw [h1] at e
          injection e with e
          have := HX2.out.lt
          omega
    have y7 := HX3.out.cell 7
    simp only [List.getElem?_toArray, List.getElem?_cons_zero, List.getElem?_cons_succ] at y7
    clear hw1 hk3 ho3 HPT
    go_upto_region 5 with fail
    go_region_held3 (fun w' => w'.cell? ⟨q, 7, none⟩ = some (.int .u8 S2)) (go_keep)
      ((have H := HBY; go_at_call 61; refine H.out.mono ?_; rintro r w4 hp; obtain rfl := hp.1; have z7 : w4.cell? ⟨q, 7, none⟩ = some (.int .u8 S2) := (Blk.keeps (w := w3.drew) HX3.out (by obtain ⟨_, _, _, hk, _⟩ := hp; exact hk) HN1.out).cell 7; have HPU := Lib.hid hp; clear hp HBY))
    go_wp2
    go_ret
    obtain ⟨_, v4, hw4, hk4, ho4⟩ := HPU.out
    have hpt : Puts 0 gi vi (had G i ++ bs ++ [S2]) w2 (.returned (.tuple #[])) w4 := Iw.puts_trans HK3.out HO3.out ⟨rfl, v4, hw4, hk4.of_drew, ho4⟩
    obtain ⟨jq, js⟩ := J.out
    obtain ⟨F', v', hq', hs'⟩ := jq.put' (Nat.le_trans HBW.out js.keeps.size) (pu_at G i _) hpt
    rw [HPE.out]
    refine ⟨F', _, rfl, hq', ?_, ((Step.pre HK1.out js)).trans hs'⟩
    rw [pu_pu, cont_pu]
    rfl
set_option maxHeartbeats 16000000 in
set_option maxRecDepth 100000 in
theorem array_ (B g : Nat) (F : Nat → Prop) (l : List Nat) (G : Gs) (N : Nat) (A : Option Addr) (n c : Nat) (a : E) (A2 : Option Addr) (m c2 : Nat) (bs : List Int) (w : World)
    (ht : Tab B w) (hB : B ≤ w.heap.size) (hq : Ql F B g l G N w) (hN : N ≤ 1000) (hll : l.length + 64 ≤ 8000000) (hG : ∀ i, (had G i).length + m + 20 ≤ 1000000)
    (hL : Ents w A n a.d.L) (hf : ∀ y ∈ a.d.L, Fits y) (hE : 0 < n → ∀ b o, A = some ⟨b, o, none⟩ → ¬ F b) (hS : 0 ≤ a.S ∧ a.S < 256)
    (hm : bs.length = m) (h02 : A2 = none → c2 = 0) (hl : Lies w A2 bs) (hby : ∀ y ∈ bs, 0 ≤ y ∧ y < 256) (hE2 : bs ≠ [] → ∀ b o, A2 = some ⟨b, o, none⟩ → ¬ F b) :
    Calls Tryz.prog 10 #[.pointer (some ⟨g, 0, none⟩), .agg (av A n c a), .slice A2 m c2] w fun r w' => Did B g (N + 1) F (pArr a bs (l, cont G)) w w' r := by
  obtain ⟨q, hqe⟩ : ∃ q, q = w.heap.size := ⟨_, rfl⟩
  obtain ⟨W, hW⟩ : ∃ W, W = w.alloc (.cells (av A n c a) 45) := ⟨_, rfl⟩
  have hk1 : Keeps (fun _ => False) w W.drew := by rw [hW]; exact ((Keeps.refl _ _).alloc _).drewN 1
  have HBX : Hid (Blk W q 45 (av A n c a)) := by show Blk _ _ _ _; rw [hW, hqe]; exact Blk.new _ _ _
  obtain ⟨Fb, Fc, v, mb, mc, h⟩ := hq.more hk1
  obtain ⟨last, o, hb, hr⟩ := row_cells h.row
  have hqF : ∀ k, F k → k ≠ q := fun k hk e => by
    have := hq.lt k hk
    omega
  have hB1 : B ≤ W.drew.heap.size := Nat.le_trans hB hk1.size
  have HCA := Lib.hid (arrays_ B g 4 Fc N mc A n c a W.drew (ht.more hB hk1) hB1 (hb.cell 4) hb.lt h.kept (hL.more hk1) hf)
  have HST := Lib.hid (fun W2 (k : Keeps (fun _ => False) W.drew W2) (hb1 : 1 ≤ a.B ∧ a.B ≤ 60000) => stopped_ B g F l G N A n c a A2 m c2 bs W2 (Nat.le_trans hB1 k.size) ((hq.more hk1).more k) (fun i => by have := hG i; omega) hb1 hS hm h02 ((hl.keeps hk1 fun _ _ _ => id).keeps k fun _ _ _ => id) hby hE2)
  have HIT := Lib.hid (fun W2 (k : Keeps (fun _ => False) W.drew W2) => int_ B g F l G N A n c a.d m W2 ((ht.more hB hk1).more hB1 k) (Nat.le_trans hB1 k.size) ((hq.more hk1).more k) hN (by omega) (fun i => by have := hG i; omega) ((hL.more hk1).more k) hf hE (by
    have h1 := hG 0
    have hm : IntKind.i64.min = -9223372036854775808 ∧ IntKind.i64.max = 9223372036854775807 := by decide
    simp [Lit.wf, hm.1, hm.2]
    omega))
  have HK1 := Lib.hid hk1
  have HQ := Lib.hid hq
  have HQF := Lib.hid hqF
  have HGL := Lib.hid hG
  have HE2 := Lib.hid hE2
  have HLI := Lib.hid hl
  have HMM := Lib.hid hm
  have HB1 := Lib.hid hB1
  obtain ⟨p, hp⟩ : ∃ p, pArr a bs (l, cont G) = p := ⟨_, rfl⟩
  rw [hp]
  have HP : Hid (p = if chkA a = 0 then (if a.K = 5 then pStop a bs (l, cont G) else pCnt a bs (l, cont G)) else (chkA a, (l, cont G))) := by show p = _; rw [← hp, pArr]
  obtain ⟨ca, hca⟩ : ∃ ca, chkA a = ca := ⟨_, rfl⟩
  rw [hca] at HCA HP
  have HCK := Lib.hid hca
  clear hp hk1 h hb hr hqF hG hE hl hq hm hE2 hL hf ht hca hB1
  have HAV := HST
  obtain ⟨⟨K, Bl, L, le, bi⟩, K2, B2, S2⟩ := a
  unfold av at HBX hW HCA HST ⊢
  unfold dv at HIT
  simp only at HBX hW HCA HST HIT HP hS ⊢
  have x0 := HBX.out.cell 0
  have x1 := HBX.out.cell 1
  have x2 := HBX.out.cell 2
  have x3 := HBX.out.cell 3
  have x4 := HBX.out.cell 4
  have x5 := HBX.out.cell 5
  have x6 := HBX.out.cell 6
  have x7 := HBX.out.cell 7
  simp only [List.getElem?_toArray, List.getElem?_cons_zero, List.getElem?_cons_succ] at x0 x1 x2 x3 x4 x5 x6 x7
  go_enter Tryz.func10, Tryz.ntmps10
  go_upto_region 3 with fail
  rw [← hqe, ← hW]
  clear hqe hW HAV
  go_region_held3 (fun w' => w'.cell? ⟨q, 0, none⟩ = some (.int .u8 K) ∧ w'.cell? ⟨q, 1, none⟩ = some (.int .i64 Bl) ∧ w'.cell? ⟨q, 2, none⟩ = some (.slice A n c) ∧ w'.cell? ⟨q, 3, none⟩ = some (.int .i64 le) ∧ w'.cell? ⟨q, 4, none⟩ = some (.int .i64 bi) ∧ w'.cell? ⟨q, 5, none⟩ = some (.int .u8 K2) ∧ w'.cell? ⟨q, 6, none⟩ = some (.int .i64 B2) ∧ w'.cell? ⟨q, 7, none⟩ = some (.int .u8 S2)) (go_keep)
    ((have H := HCA; go_at_call 32; refine H.out.mono ?_; rintro r w1 ⟨rfl, hk2⟩; have HK2 := Lib.hid hk2; have HX1 := Lib.hid (Blk.keeps (w := W.drew) HBX.out hk2 id); have y0 := HX1.out.cell 0; have y1 := HX1.out.cell 1; have y2 := HX1.out.cell 2; have y3 := HX1.out.cell 3; have y4 := HX1.out.cell 4; have y5 := HX1.out.cell 5; have y6 := HX1.out.cell 6; have y7 := HX1.out.cell 7; simp only [List.getElem?_toArray, List.getElem?_cons_zero, List.getElem?_cons_succ] at y0 y1 y2 y3 y4 y5 y6 y7; clear hk2 HCA))
  have HQ1 := Lib.hid ((HQ.out.more HK1.out).more HK2.out)
  have HKW := Lib.hid (HK1.out.trans HK2.out)
  by_cases h0 : ca = 0
  · subst h0
    obtain ⟨hb1, hk⟩ := chkA_ok HCK.out
    simp only at hb1 hk
    by_cases h5 : K2 = 5
    · subst h5
      have HPE : Hid (p = pStop ⟨⟨K, Bl, L, le, bi⟩, 5, B2, S2⟩ bs (l, cont G)) := by show p = _; rw [HP.out, if_pos rfl, if_pos rfl]
      have HSR := Lib.hid (HST.out w1 HK2.out hb1)
      clear HP HST HIT
      go_wp2_with fail
      refine HSR.out.mono ?_
      rintro r w2 ⟨F', G', rfl, hq', hc', hs'⟩
      have HR := Lib.hid (show Ql F' B g _ G' N w2 from hq')
      have HC := Lib.hid hc'
      have HS := Lib.hid hs'
      clear hq' hc' hs' HSR
      go_wp2
      go_ret
      rw [HPE.out]
      exact ⟨F', G', rfl, HR.out.le (by omega), HC.out, Step.pre HKW.out HS.out⟩
    · have h4 : K2 = 4 := by omega
      subst h4
      have HPE : Hid (p = pCnt ⟨⟨K, Bl, L, le, bi⟩, 4, B2, S2⟩ bs (l, cont G)) := by show p = _; rw [HP.out, if_pos rfl, if_neg (by decide)]
      have HSR := Lib.hid (HIT.out w1 HK2.out)
      have hlen := pInt_len ⟨K, Bl, L, le, bi⟩ m (l, cont G)
      obtain ⟨i, hi⟩ := Int.eq_ofNat_of_zero_le (show 0 ≤ B2 by omega)
      subst hi
      have HPF : Hid (p = if (pInt ⟨K, Bl, L, le, bi⟩ m (l, cont G)).1 = 0 then (0, ((pInt ⟨K, Bl, L, le, bi⟩ m (l, cont G)).2.1, pc (pInt ⟨K, Bl, L, le, bi⟩ m (l, cont G)).2.2 i (hadP (pInt ⟨K, Bl, L, le, bi⟩ m (l, cont G)).2.2 i ++ bs))) else pInt ⟨K, Bl, L, le, bi⟩ m (l, cont G)) := by
        show p = _
        rw [HPE.out, pCnt, HMM.out]
        rfl
      clear HP HST HIT HPE
      unfold Did at HSR
      obtain ⟨p1, hp1⟩ : ∃ p1, pInt ⟨K, Bl, L, le, bi⟩ m (l, cont G) = p1 := ⟨_, rfl⟩
      rw [hp1] at HSR HPF hlen
      clear hp1
      obtain ⟨e1, l1, f1⟩ := p1
      simp only at HSR HPF hlen
      have HLN := Lib.hid hlen
      clear hlen
      go_wp2_with fail
      refine HSR.out.mono ?_
      rintro r w2 ⟨F', G', rfl, hq', hc', hs'⟩
      have HR := Lib.hid hq'
      have HC := Lib.hid hc'
      have HS := Lib.hid hs'
      have HX2 := Lib.hid (HX1.out.keeps hs'.keeps fun e => HQF.out q e rfl)
      have z6 := HX2.out.cell 6
      simp only [List.getElem?_toArray, List.getElem?_cons_zero, List.getElem?_cons_succ] at z6
      clear hq' hc' hs' HSR
      by_cases he : e1 = 0
      · subst he
        have HPG : Hid (p = (0, (l1, pc f1 i (hadP f1 i ++ bs)))) := by show p = _; rw [HPF.out, if_pos rfl]
        obtain ⟨Fb1, Fc1, v1, mb1, mc1, h1⟩ := HR.out
        obtain ⟨last1, o1, hb2, hr2⟩ := row_cells h1.row
        have hB2 : B ≤ w2.heap.size := Nat.le_trans (Nat.le_trans HB1.out HK2.out.size) HS.out.keeps.size
        have HIN := Lib.hid (into_ g 77 #[v1, .int .u64 last1, .int .i64 o1, mb1, mc1] Fb1 mb1 G' i w2 (by omega) hb2 rfl h1.ing.2.1 h1.wms)
        have HB2 := Lib.hid hB2
        have HH1 := Lib.hid h1
        have HR2 := Lib.hid hr2
        have HGS : Hid ((had G' i).length + m ≤ 1000000) := by
          have h2 := HLN.out.2 i
          have h3 := HGL.out i
          rw [had_cont] at h3
          show (had G' i).length + m ≤ 1000000
          rw [had_cont, HC.out]
          omega
        have HL2 : Hid (Lies w2 A2 bs) := lies_keeps (HLI.out.keeps HKW.out fun _ _ _ => id) HS.out.keeps HE2.out
        have HE3 : Hid (bs ≠ [] → ∀ b o, A2 = some ⟨b, o, none⟩ → b < w.heap.size → ¬ F' b) := fun hn b o e hb hf => by
          rcases HS.out.sub b hf with h2 | h2
          · exact HE2.out hn b o e h2
          · have := HKW.out.size
            omega
        have HLW : Hid (bs = [] ∨ ∀ b o, A2 = some ⟨b, o, none⟩ → b < w.heap.size) := by
          rcases HLI.out with h2 | ⟨b, o, h2, h3, _⟩
          · exact .inl h2
          · refine .inr fun b' o' e => ?_
            rw [h2] at e
            injection e with e
            injection e with e
            omega
        clear HPF h1 hb2 hr2 hB2
        go_wp2_with fail
        refine HIN.out.mono ?_
        rintro r w3 ⟨gi, vi, mb', Fb', rfl, j1, j2, j3, j4⟩
        have J := Lib.hid (HH1.out.wms' HB2.out HR2.out (by exact j1) j2 j3 j4)
        have hwr : IsWr 0 gi vi (had G' i) w3 := by
          rcases j3.2 with ⟨_, hn⟩ | ⟨b, _, hm⟩
          · have := hn i
            simp [pu] at this
          · exact (hm.wr i _ (pu_at G' i _)).2.1
        have hl3 : Lies w3 A2 bs := by
          rcases HLW.out with h2 | h2
          · exact .inl h2
          · exact lies_keeps HL2.out J.out.2.keeps fun hn b o e => HE3.out hn b o e (h2 b o e)
        have HPT := Lib.hid (Ww.put gi 0 vi (had G' i) bs A2 m c2 w3 HMM.out h02 hwr hl3 HGS.out)
        clear j1 j2 j3 j4 HIN hwr hl3
        go_wp2_with fail
        refine HPT.out.mono ?_
        rintro r w4 hp
        obtain rfl := hp.1
        have HPU := Lib.hid hp
        clear hp HPT
        go_wp2
        go_ret
        obtain ⟨jq, js⟩ := J.out
        obtain ⟨F3, v3, hq3, hs3⟩ := jq.put' (Nat.le_trans HB2.out js.keeps.size) (pu_at G' i _) HPU.out
        rw [HPG.out]
        refine ⟨F3, _, rfl, hq3, ?_, (Step.pre HKW.out (HS.out.trans js)).trans hs3⟩
        rw [pu_pu, cont_pu, HC.out, had_cont, HC.out]
      · have hne : (e1 != 0) = true := by simpa using he
        go_wp2
        go_ret
        rw [HPF.out, if_neg he]
        exact ⟨F', G', rfl, HR.out, HC.out, Step.pre HKW.out HS.out⟩
  · have hne : (ca != 0) = true := by simpa using h0
    go_wp2
    go_ret
    rw [HP.out, if_neg h0]
    exact ⟨F, G, rfl, HQ1.out.le (by omega), rfl, Step.quiet HKW.out⟩
end Go.Proofs.YtgaofnmgdefdcaaGreatDoor.Qu

namespace Go.Proofs.YtgaofnmgdefdcaaGreatDoor.Le
open Go.RowKit Go.Proofs.YtgaofnmgdefdcaaGreatDoor.Gen Go.Proofs.YtgaofnmgdefdcaaGreatDoor.Hu Go.Proofs.YtgaofnmgdefdcaaGreatDoor.Mp Go.Proofs.YtgaofnmgdefdcaaGreatDoor.Cm Go.Proofs.YtgaofnmgdefdcaaGreatDoor.Hr Go.Proofs.YtgaofnmgdefdcaaGreatDoor.Hn Go.Proofs.YtgaofnmgdefdcaaGreatDoor.Hk Go.Proofs.YtgaofnmgdefdcaaGreatDoor.Ln Go.Proofs.YtgaofnmgdefdcaaGreatDoor.Ds Go.Proofs.YtgaofnmgdefdcaaGreatDoor.Ky Go.Proofs.YtgaofnmgdefdcaaGreatDoor.Wr Go.Proofs.YtgaofnmgdefdcaaGreatDoor.Ir Go.Proofs.YtgaofnmgdefdcaaGreatDoor.Ib Go.Proofs.YtgaofnmgdefdcaaGreatDoor.Br Go.Proofs.YtgaofnmgdefdcaaGreatDoor.Bp Go.Proofs.YtgaofnmgdefdcaaGreatDoor.Qh Go.Proofs.YtgaofnmgdefdcaaGreatDoor.Qs Go.Proofs.YtgaofnmgdefdcaaGreatDoor.Qf Go.Proofs.YtgaofnmgdefdcaaGreatDoor.Qc Go.Proofs.YtgaofnmgdefdcaaGreatDoor.It Go.Proofs.YtgaofnmgdefdcaaGreatDoor.Qi Go.Proofs.YtgaofnmgdefdcaaGreatDoor.Qu

theorem fail_bad {s : RS} (h : s.e ≠ 0) (e : Int) : s.fail e = s := by simp [RS.fail, h]
theorem five_bad {n : Int} {f : Nat} {s : RS} (h : s.e = 3) : (five (n, f, s)).2.e = 3 := by
  have h0 : s.e ≠ 0 := by rw [h]; decide
  unfold five
  simp only
  split
  · rw [needs_bad s _ _ h0]
    exact h
  · split
    · simp only
      rw [fail_bad h0]
      exact h
    · rw [needs_bad s _ _ h0]
      exact h
/-- The first byte of a number tells how many follow. -/
theorem enc_head {n : Int} (h0 : 0 ≤ n) (h1 : n < 4294967296) : ∃ b, (encInt n)[0]? = some b ∧ (encInt n).length = 1 + min (lead b) 4 := by
  by_cases hs : n < 268435456
  · have hf := (foll_int n).2 hs
    rw [show encInt n = enc n (foll n) by simp [encInt, hs]]
    refine ⟨onesOf (foll n) + n / 256 ^ foll n, rfl, ?_⟩
    rw [foll_lead n h0 (by omega), enc_len]
    omega
  · rw [show encInt n = enc (n / 16 * 256 + n % 16) 4 by simp [encInt, hs]]
    have hq : (n / 16 * 256 + n % 16) / 256 ^ 4 < 2 ^ (8 - 4) := by simp; omega
    have hl := (mod_of (f := 4) (by omega) (Int.ediv_nonneg (show 0 ≤ n / 16 * 256 + n % 16 by omega) (by decide)) hq).2.1
    refine ⟨onesOf 4 + (n / 16 * 256 + n % 16) / 256 ^ 4, rfl, ?_⟩
    rw [enc_len]
    omega
/-- A number of which bytes are missing. -/
theorem int_cut {all rest : List Int} {k K : Nat} {n : Int} (h : all.drop k = encInt n ++ rest) (h0 : 0 ≤ n) (h1 : n < 4294967296) (hk : k ≤ K) (hK : K < k + (encInt n).length) : (RS.int ⟨all.take K, k, 0⟩).2.e = 3 := by
  have hlen := congrArg List.length h
  simp only [List.length_drop, List.length_append] at hlen
  have hl : (all.take K).length = K := by rw [List.length_take]; omega
  unfold RS.int
  obtain ⟨b, hb, hn⟩ := enc_head h0 h1
  rcases Nat.lt_or_ge k K with hlt | hge
  · have hb2 : (all.take K)[k]? = some b := by
      rw [List.getElem?_take_of_lt hlt]
      have := at_drop h 0
      rw [Nat.add_zero] at this
      rw [this, List.getElem?_append_left (by rw [hn]; omega)]
      exact hb
    have hno := num_no hb2 (most := 4) rfl (by rw [hl]; omega)
    rcases hq : RS.num ⟨all.take K, k, 0⟩ 4 with ⟨x, f, s⟩
    rw [hq] at hno
    simp only [Prod.mk.injEq] at hno
    exact five_bad (by rw [hno.2])
  · have hby : (⟨all.take K, k, 0⟩ : RS).byte = (0, ⟨all.take K, k, 3⟩) := by
      unfold RS.byte
      rw [if_pos rfl, if_neg (by simp only [hl]; omega)]
    have hg : (RS.num ⟨all.take K, k, 0⟩ 4).2.2 = ⟨all.take K, k, 3⟩ := by
      unfold RS.num
      simp only [hby]
      exact gath_bad (show (3 : Int) ≠ 0 by decide) _ _
    rcases hq : RS.num ⟨all.take K, k, 0⟩ 4 with ⟨x, f, s⟩
    rw [hq] at hg
    simp only at hg
    exact five_bad (by rw [hg])
/-- Numbers' bytes, one behind the other. -/
def cat (v : Nat → Int) : Nat → List Int
  | 0 => []
  | j + 1 => cat v j ++ encInt (sg (v j))
theorem cat_split (v : Nat → Int) (j : Nat) : ∀ n, j < n → ∃ r, cat v n = cat v j ++ (encInt (sg (v j)) ++ r)
  | 0, h => by omega
  | n + 1, h => by
    by_cases hj : j = n
    · subst hj
      exact ⟨[], by simp [cat]⟩
    · obtain ⟨r, hr⟩ := cat_split v j n (by omega)
      exact ⟨r ++ encInt (sg (v n)), by simp [cat, hr]⟩
theorem cat_len (v : Nat → Int) : ∀ j, j ≤ (cat v j).length ∧ (cat v j).length ≤ 5 * j
  | 0 => by simp [cat]
  | j + 1 => by
    have h1 := cat_len v j
    have h2 := encInt_len (sg (v j))
    simp only [cat, List.length_append]
    omega
theorem cat_mono (v : Nat → Int) : ∀ {i j : Nat}, i ≤ j → (cat v i).length ≤ (cat v j).length
  | i, 0, h => by rw [show i = 0 by omega]; exact Nat.le_refl _
  | i, j + 1, h => by
    by_cases hi : i = j + 1
    · rw [hi]; exact Nat.le_refl _
    · have h1 := cat_mono v (show i ≤ j by omega)
      simp only [cat, List.length_append]
      omega
theorem cat_byte (v : Nat → Int) (hv : ∀ i, -2147483648 ≤ v i ∧ v i ≤ 2147483647) : ∀ j, ∀ x ∈ cat v j, 0 ≤ x ∧ x < 256
  | 0 => by simp [cat]
  | j + 1 => by
    intro x hx
    simp only [cat, List.mem_append] at hx
    obtain ⟨_, s2, s3⟩ := sign_sg (hv j).1 (hv j).2
    rcases hx with hx | hx
    · exact cat_byte v hv j x hx
    · exact encInt_byte s2 s3 x hx
/-- A number of the block 5 of which there are K bytes. -/
theorem out_short {v : Nat → Int} (hv : ∀ i, -2147483647 ≤ v i ∧ v i ≤ 2147483647) {N j K : Nat} (hj : j < N) (hK : K ≤ (cat v N).length) (ha : (cat v j).length ≤ K) {s s' : BS} {G G' : Rs} {n e : Int} (h : WithinR ⟨1, 5, [], 0, 0⟩ s G 0 (-2147483647) 2147483647 n e s' G') (hG : G 5 = some ⟨(cat v N).take K, (cat v j).length, 0⟩) :
    ((cat v (j + 1)).length ≤ K ∧ n = v j ∧ e = 0 ∧ G' 5 = some ⟨(cat v N).take K, (cat v (j + 1)).length, 0⟩ ∧ s' = s) ∨ (K < (cat v (j + 1)).length ∧ e = 3) := by
  have hck : chkI ⟨1, 5, [], 0, 0⟩ = 0 := by decide
  obtain ⟨r, hr⟩ := cat_split v j N hj
  obtain ⟨s1, s2, s3⟩ := sign_sg (n := v j) (by have := hv j; omega) (hv j).2
  have hd : (cat v N).drop (cat v j).length = encInt (sg (v j)) ++ r := by rw [hr]; simp
  have hln : (cat v (j + 1)).length = (cat v j).length + (encInt (sg (v j))).length := by simp [cat]
  rcases h with ⟨h0, _⟩ | ⟨_, sz, ⟨m, e1, hn, hc⟩, hs⟩
  · exact absurd rfl h0
  rcases hn with ⟨h0, _⟩ | ⟨_, _, h1, h2⟩ | ⟨_, h3, _⟩ | ⟨_, h3, _⟩
  · exact absurd hck h0
  · unfold OutR at h2
    rw [show (⟨1, 5, [], 0, 0⟩ : D).B.toNat = 5 from rfl, hG] at h2
    simp only at h2
    obtain ⟨h4, h5, h6⟩ := h2
    by_cases hq : (cat v (j + 1)).length ≤ K
    · have hd2 : ((cat v N).take K).drop (cat v j).length = encInt (sg (v j)) ++ r.take (K - (cat v (j + 1)).length) := by
        rw [List.drop_take, hd, List.take_append]
        rw [List.take_of_length_le (by omega)]
        congr 2
        omega
      rw [int_back hd2 s2 s3] at h4 h5 h6
      simp only at h4 h5 h6
      have hm : m = v j := h4.trans s1
      subst h5
      rcases hc with ⟨h, _⟩ | ⟨_, h, _⟩ | ⟨_, _, _, h8, h9⟩
      · exact absurd rfl h
      · have := hv j
        omega
      · refine .inl ⟨hq, h8.trans hm, h9, ?_, ?_⟩
        · rw [h6, ← hln]
          exact if_pos rfl
        · rw [hs, h9, h1]
          rfl
    · have he := int_cut hd s2 s3 ha (by omega)
      rw [he] at h5
      subst h5
      rcases hc with ⟨_, _, h⟩ | ⟨h, _⟩ | ⟨h, _⟩
      · exact .inr ⟨by omega, h⟩
      · exact absurd h (by decide)
      · exact absurd h (by decide)
  · exact absurd h3 (by decide)
  · exact absurd h3 (by decide)
theorem bits_at {zs : List Int} {j : Nat} (hj : j < zs.length) (hb : ∀ x ∈ zs, 0 ≤ x ∧ x < 256) (e : Bool) : ((num (piece (⟨zs, 8 * j, e⟩ : BS).bits (8 * j) 8) : Nat) : Int) = zs.getD j 0 := by
  have h1 : (zs.map Int.toNat).drop j = (zs[j]).toNat :: (zs.map Int.toNat).drop (j + 1) := by
    rw [List.drop_eq_getElem_cons (by simpa using hj)]
    simp
  have h2 := hb zs[j] (List.getElem_mem _)
  unfold BS.bits piece
  rw [← ofB_drop, h1, ofB_cons, List.take_append_of_le_length (by rw [tb_len]; exact Nat.le_refl _), List.take_of_length_le (by rw [tb_len]; exact Nat.le_refl _), num_tb, List.getD_eq_getElem?_getD, List.getElem?_eq_getElem hj]
  simp only [Option.getD_some]
  omega
/-- A byte of the row of bits of which there are so many whole bytes. -/
theorem fix_short {zs : List Int} (hb : ∀ x ∈ zs, 0 ≤ x ∧ x < 256) {j : Nat} (hj : j ≤ zs.length) {s' : BS} {G G' : Rs} {n e : Int} (h : WithinR ⟨6, 0, [], 0, 8⟩ ⟨zs, 8 * j, false⟩ G 0 (-2147483647) 2147483647 n e s' G') :
    (j < zs.length ∧ n = zs.getD j 0 ∧ e = 0 ∧ s' = ⟨zs, 8 * (j + 1), false⟩ ∧ G' = G) ∨ (j = zs.length ∧ e = 3) := by
  have hck : chkI ⟨6, 0, [], 0, 8⟩ = 0 := by decide
  rcases h with ⟨h0, _⟩ | ⟨_, s1, ⟨m, e1, hn, hc⟩, hs⟩
  · exact absurd rfl h0
  rcases hn with ⟨h0, _⟩ | ⟨_, h3, _⟩ | ⟨_, h3, _⟩ | ⟨_, _, h1, h2, h4⟩
  · exact absurd hck h0
  · exact absurd h3 (by decide)
  · exact absurd h3 (by decide)
  · rw [show (⟨6, 0, [], 0, 8⟩ : D).bi.toNat = 8 from rfl] at h2 h4
    rcases Nat.lt_or_ge j zs.length with hlt | hge
    · have htk : (⟨zs, 8 * j, false⟩ : BS).take 8 = (num (piece (⟨zs, 8 * j, false⟩ : BS).bits (8 * j) 8), ⟨zs, 8 * j + 8, false⟩) := take_near rfl (by simp only; omega)
      have hv := bits_at hlt hb false
      have hr := hb (zs.getD j 0) (by rw [List.getD_eq_getElem?_getD, List.getElem?_eq_getElem hlt]; exact List.getElem_mem _)
      rw [htk] at h2 h4
      simp only at h2 h4
      subst h2
      rcases h4 with ⟨h, _⟩ | ⟨_, h5, h6⟩
      · cases h
      · subst h6
        rw [hv] at h5
        rcases hc with ⟨h, _⟩ | ⟨_, h, _⟩ | ⟨_, _, _, h8, h9⟩
        · exact absurd rfl h
        · omega
        · refine .inl ⟨hlt, by omega, h9, ?_, h1⟩
          rw [hs, h9]
          rfl
    · rw [take_far (.inr (by simp only; omega))] at h2 h4
      simp only at h2 h4
      subst h2
      rcases h4 with ⟨_, _, h6⟩ | ⟨h, _⟩
      · subst h6
        rcases hc with ⟨_, _, h⟩ | ⟨h, _⟩ | ⟨h, _⟩
        · exact .inr ⟨by omega, h⟩
        · exact absurd h (by decide)
        · exact absurd h (by decide)
      · cases h
/-- What is put. -/
theorem put_d {v : Int} (hv : -2147483647 ≤ v ∧ v ≤ 2147483647) (l : List Nat) (f : Nat → Option (List Int)) : pInt ⟨1, 5, [], 0, 0⟩ v (l, f) = (0, (l, pc f 5 (hadP f 5 ++ encInt (sg v)))) := by
  have hck : chkI ⟨1, 5, [], 0, 0⟩ = 0 := by decide
  unfold pInt putN
  rw [if_pos hck, if_neg (by omega), if_pos rfl]
  rfl
theorem put_f {u : Int} (hu : 0 ≤ u ∧ u < 256) (l : List Nat) (f : Nat → Option (List Int)) : pInt ⟨6, 0, [], 0, 8⟩ u (l, f) = (0, (l ++ tb u.toNat 8, f)) := by
  have hck : chkI ⟨6, 0, [], 0, 8⟩ = 0 := by decide
  unfold pInt putN Qu.putF
  rw [if_pos hck, if_neg (by omega), if_neg (by decide), if_neg (by decide), if_neg (by simp only; have : ((8 : Int).toNat) = 8 := rfl; rw [this]; omega)]
  simp
end Go.Proofs.YtgaofnmgdefdcaaGreatDoor.Le

namespace Go.Proofs.YtgaofnmgdefdcaaGreatDoor.Qu
open Go.RowKit Go.Proofs.YtgaofnmgdefdcaaGreatDoor.Ww Go.Proofs.YtgaofnmgdefdcaaGreatDoor.Gen Go.Proofs.YtgaofnmgdefdcaaGreatDoor.Mp Go.Proofs.YtgaofnmgdefdcaaGreatDoor.Cm Go.Proofs.YtgaofnmgdefdcaaGreatDoor.Wr Go.Proofs.YtgaofnmgdefdcaaGreatDoor.Bp Go.Proofs.YtgaofnmgdefdcaaGreatDoor.Qh Go.Proofs.YtgaofnmgdefdcaaGreatDoor.Qs Go.Proofs.YtgaofnmgdefdcaaGreatDoor.Qf Go.Proofs.YtgaofnmgdefdcaaGreatDoor.Qi Go.Proofs.YtgaofnmgdefdcaaGreatDoor.Qk

theorem Ql_base {F : Nat → Prop} {B B' g N : Nat} {l : List Nat} {G : Gs} {w : World} (h : Ql F B g l G N w) (hB : B' ≤ B) : Ql F B' g l G N w := by
  obtain ⟨Fb, Fc, v, mb, mc, h⟩ := h
  exact ⟨Fb, Fc, v, mb, mc, h.row, h.wms, h.kept, h.ab, h.bc, h.all, fun k hk => Nat.le_trans hB (h.low k hk)⟩
/-- A new Quill. -/
theorem new_q (B : Nat) (w : World) (hB : B ≤ w.heap.size) : Calls Tryz.prog 9 #[] w fun r w' => r = .returned (.pointer (some ⟨w.heap.size, 0, none⟩)) ∧ Ql (· = w.heap.size) B w.heap.size [] (fun _ => none) 0 w' ∧ Step (fun _ => False) (· = w.heap.size) w w' := by
  have HQ := Lib.hid (Ql_base (Ql.start w) hB)
  have HS : Hid (Step (fun _ => False) (· = w.heap.size) w (w.alloc (.cells #[.slice none 0 0, .int .u64 0, .int .i64 0, .map none, .map none] 77))) := ⟨(Keeps.refl _ _).alloc _, fun k hk => .inr (by omega)⟩
  go_enter Tryz.func9, Tryz.ntmps9
  go_wp2
  go_ret
  exact ⟨rfl, HQ.out, HS.out⟩
theorem int_nil (d : Array Value) (x : Int) (w : World) : Calls Tryz.prog 15 #[.pointer none, .agg d, .int .i64 x] w fun r w' => r = .returned (.int .i64 1) ∧ Keeps (fun _ => False) w w' := by
  go_enter Tryz.func15, Tryz.ntmps15
  go_wp2
  go_ret
  exact ⟨rfl, (Keeps.refl _ _).alloc _⟩
theorem array_nil (d : Array Value) (A : Option Addr) (n c : Nat) (w : World) : Calls Tryz.prog 10 #[.pointer none, .agg d, .slice A n c] w fun r w' => r = .returned (.int .i64 1) ∧ Keeps (fun _ => False) w w' := by
  go_enter Tryz.func10, Tryz.ntmps10
  go_wp2
  go_ret
  exact ⟨rfl, (Keeps.refl _ _).alloc _⟩
theorem row_nil (w : World) : Calls Tryz.prog 18 #[.pointer none] w fun r w' => r = .returned (.slice none 0 0) ∧ w' = w := by
  go_enter Tryz.func18, Tryz.ntmps18
  go_wp2
  go_ret
  exact ⟨rfl, rfl⟩
theorem blocks_nil (w : World) : Calls Tryz.prog 17 #[.pointer none] w fun r w' => r = .returned (.slice none 0 0) ∧ w' = w := by
  go_enter Tryz.func17, Tryz.ntmps17
  go_wp2
  go_ret
  exact ⟨rfl, rfl⟩
theorem block_nil (x : Int) (w : World) : Calls Tryz.prog 20 #[.pointer none, .int .i64 x] w fun r w' => r = .returned (.slice none 0 0) ∧ w' = w := by
  go_enter Tryz.func20, Tryz.ntmps20
  go_wp2
  go_ret
  exact ⟨rfl, rfl⟩
/-- Row: the row's bits as bytes, noughts behind. -/
theorem row_ (B g : Nat) (F : Nat → Prop) (l : List Nat) (G : Gs) (N : Nat) (w : World) (hq : Ql F B g l G N w) (hl : l.length ≤ 7999000) :
    Calls Tryz.prog 18 #[.pointer (some ⟨g, 0, none⟩)] w (Bw.Packed w.heap.size l w) := by
  obtain ⟨Fb, Fc, v, mb, mc, h⟩ := hq
  have HB := Lib.hid (Bq.bytes g 0 v l w h.row hl)
  clear h
  go_enter Tryz.func18, Tryz.ntmps18
  go_wp2_with fail
  refine HB.out.mono ?_
  rintro r w1 ⟨A, c, ys, n, hn, rfl, hp, hy, ho, hk⟩
  have H1 := Lib.hid hn
  have H2 := Lib.hid hp
  have H3 := Lib.hid hy
  have H4 := Lib.hid ho
  have H5 := Lib.hid hk
  clear hn hp hy ho hk HB
  go_wp2
  go_ret
  exact ⟨A, c, ys, n, H1.out, rfl, H2.out, H3.out, H4.out, H5.out⟩
/-- The numbers of blocks that there are, rising. -/
def bnums (G : Gs) : List Nat := (List.range 60001).filter fun i => (G i).isSome
theorem bnums_nums (G : Gs) : nums (fun i => (G i).map wptr) 60001 = bnums G := by
  unfold nums bnums
  refine List.filter_congr fun i _ => ?_
  show (Option.map wptr (G i)).isSome = (G i).isSome
  simp
theorem blocks_ (B g : Nat) (F : Nat → Prop) (l : List Nat) (G : Gs) (N : Nat) (w : World) (hq : Ql F B g l G N w) :
    Calls Tryz.prog 17 #[.pointer (some ⟨g, 0, none⟩)] w fun r w' => ∃ A c n, r = .returned (.slice A n c) ∧ (bnums G).length = n ∧ w'.ownsRow w.heap.size 3 1 (.slice A n c) n ((bnums G).map fun i : Nat => Value.int .i64 i) ∧ Keeps (fun _ => False) w w' := by
  obtain ⟨Fb, Fc, v, mb, mc, h⟩ := hq
  obtain ⟨last, o, hb, hr⟩ := row_cells h.row
  have hc3 : w.cell? ⟨g, 3, none⟩ = some mb := hb.cell 3
  have hw := h.wms.2
  clear h hr hb
  have HK := Lib.hid keysA
  rcases hw with ⟨rfl, hn⟩ | ⟨b, rfl, hm⟩
  · have hk1 := (Keeps.refl (fun _ => False) w).alloc (.cells #[.map none] 72)
    have HS := Lib.hid (sortedA_nil w.heap.size (w.alloc (.cells #[.map none] 72)) (by simp) ((Blk.new w 72 #[.map none]).cell 0))
    have HK1 := Lib.hid hk1
    have HE : Hid (bnums G = []) := by
      show bnums G = []
      unfold bnums
      rw [List.filter_eq_nil_iff]
      intro i _
      simp [hn i]
    clear hn hk1
    go_enter Tryz.func17, Tryz.ntmps17
    go_wp2_with (first
      | (go_at_call 44; refine (HK.out none _).mono ?_; rintro r w1 ⟨rfl, rfl⟩)
      | (have H := HS; go_at_call 43; refine H.out.mono ?_; rintro r w2 ⟨rfl, hk2⟩; have HK2 := Lib.hid (HK1.out.trans hk2); clear hk2 HS))
    go_ret
    exact ⟨none, 0, 0, rfl, by rw [HE.out]; rfl, by rw [HE.out]; exact World.ownsRow_nil _ _ _ _, HK2.out⟩
  · have hk1 := (Keeps.refl (fun _ => False) w).alloc (.cells #[.map (some b)] 72)
    have HS := Lib.hid (sortedA int_ks (fun i _ => rfl) (by omega) w.heap.size b (fun i => (G i).map wptr) (w.alloc (.cells #[.map (some b)] 72)) (by simp) ((Blk.new w 72 #[.map (some b)]).cell 0) (hm.map.keeps hk1 id))
    have HK1 := Lib.hid hk1
    clear hm hk1
    go_enter Tryz.func17, Tryz.ntmps17
    go_wp2_with (first
      | (go_at_call 44; refine (HK.out (some b) _).mono ?_; rintro r w1 ⟨rfl, rfl⟩)
      | (have H := HS; go_at_call 43; refine H.out.mono ?_; rintro r w2 ⟨v2, rfl, ho2, hk2⟩; have HK2 := Lib.hid (HK1.out.trans hk2); have HO := Lib.hid ho2; clear hk2 ho2 HS))
    go_ret
    have ho := HO.out
    rw [bnums_nums] at ho
    obtain ⟨A, c, rfl, _⟩ := own_form ho
    refine ⟨A, c, _, rfl, rfl, ?_, HK2.out⟩
    have e : (numZ (fun i => (G i).map wptr) 60001).map encZ = (bnums G).map fun i : Nat => Value.int .i64 i := by
      rw [numZ, bnums_nums, List.map_map]
      rfl
    rw [e] at ho
    exact own_base ho (by simp)
/-- A block's bytes. -/
def hadI (G : Gs) (x : Int) : List Int := if 0 ≤ x ∧ x ≤ 60000 then had G x.toNat else []
theorem look_out {w : World} {b : Nat} {val : Nat → Option Value} (h : IsF Tryz.prog 3 60001 ikl w b val) {x : Int} (hx : (Lit.int .i64 x).wf = true) (hn : ¬ (0 ≤ x ∧ x ≤ 60000)) :
    (Instr.lookup 72 (.map (some b)) (.int .i64 x) true).run Tryz.prog w = .ok (.tuple #[.pointer none, .bool false]) w := by
  obtain ⟨m, h1, h2⟩ := h
  refine ((h1.look w int_ks.keyed Tryz.underlying72 (zero_pit w) (Go.Maps.keyOf_int_mk Tryz.underlying3 hx)).2 fun hm => ?_).2
  obtain ⟨p, hp, e⟩ := List.mem_map.1 hm
  obtain ⟨i, hi, e1, _⟩ := h2.sub p hp
  rw [e1] at e
  unfold ikl at e
  injection e with _ e
  omega
theorem look_nilb (x : Int) (w : World) : (Instr.lookup 72 (.map none) (.int .i64 x) true).run Tryz.prog w = .ok (.tuple #[.pointer none, .bool false]) w :=
  look_none Tryz.underlying72 Tryz.underlying3 _ w (by unfold Instr.checkKey; simp [Tryz.underlying3, go_sem]) (zero_pit w)
theorem block_ (B g : Nat) (F : Nat → Prop) (l : List Nat) (G : Gs) (N : Nat) (x : Int) (m : Nat) (w : World) (hq : Ql F B g l G N w) (hx : (Lit.int .i64 x).wf = true) (hm : (hadI G x).length = m) :
    Calls Tryz.prog 20 #[.pointer (some ⟨g, 0, none⟩), .int .i64 x] w (Own w.heap.size m (hadI G x) w) := by
  obtain ⟨Fb, Fc, v, mb, mc, h⟩ := hq
  obtain ⟨last, o, hb, hr⟩ := row_cells h.row
  have hc3 : w.cell? ⟨g, 3, none⟩ = some mb := hb.cell 3
  have hw := h.wms.2
  have HM := Lib.hid hm
  clear h hr hb hm
  have hnone : hadI G x = [] → m = 0 := fun e => by rw [← HM.out, e]; rfl
  have HN := Lib.hid hnone
  clear hnone
  rcases hw with ⟨rfl, hn⟩ | ⟨b, rfl, hmm⟩
  · have hl := look_nilb x w
    have HE : Hid (hadI G x = []) := by
      show hadI G x = []
      unfold hadI had
      split
      · rw [hn]; rfl
      · rfl
    clear hn
    go_enter Tryz.func20, Tryz.ntmps20
    go_wp2
    go_ret
    obtain rfl := HN.out HE.out
    rw [HE.out]
    exact ⟨none, 0, rfl, World.ownsRow_nil _ _ _ _, Keeps.refl _ _⟩
  · by_cases hin : 0 ≤ x ∧ x ≤ 60000
    · obtain ⟨i, rfl⟩ := Int.eq_ofNat_of_zero_le hin.1
      have he : hadI G (i : Int) = had G i := by unfold hadI; rw [if_pos hin]; rfl
      have HE := Lib.hid he
      have HLK := Lib.hid (hmm.map.look int_ks Tryz.underlying72 (zero_pit w) (show i < 60001 by omega))
      cases hG : G i with
      | none =>
        have hlk := (HLK.out.2 (by rw [hG]; rfl)).2
        unfold ikv at hlk
        have HE0 : Hid (hadI G (i : Int) = []) := by show _ = _; rw [he]; simp [had, hG]
        clear HLK hmm hG he
        go_enter Tryz.func20, Tryz.ntmps20
        go_wp2
        go_ret
        obtain rfl := HN.out HE0.out
        rw [HE0.out]
        exact ⟨none, 0, rfl, World.ownsRow_nil _ _ _ _, Keeps.refl _ _⟩
      | some e =>
        obtain ⟨gi, vi, ys⟩ := e
        have hlk := (HLK.out.1 (.pointer (some ⟨gi, 0, none⟩)) (by rw [hG]; rfl)).2
        unfold ikv at hlk
        have he2 : had G i = ys := by simp [had, hG]
        have HYS : Hid (hadI G (i : Int) = ys) := by show _ = _; rw [he, he2]
        have HBY := Lib.hid (Ww.bytes_n gi 0 vi ys m w (by rw [← HM.out, he, he2]) (hmm.wr i _ hG).2.1)
        clear HLK hmm hG he he2
        go_enter Tryz.func20, Tryz.ntmps20
        go_wp2_with fail
        refine HBY.out.mono ?_
        rintro r w1 ⟨A, c, rfl, ho, hk⟩
        have HO := Lib.hid ho
        have HK := Lib.hid hk
        clear ho hk HBY
        go_wp2
        go_ret
        rw [HYS.out]
        exact ⟨A, c, rfl, HO.out, HK.out⟩
    · have hlk := look_out hmm.map hx hin
      have HE0 : Hid (hadI G x = []) := by show _ = _; unfold hadI; rw [if_neg hin]
      clear hmm
      go_enter Tryz.func20, Tryz.ntmps20
      go_wp2
      go_ret
      obtain rfl := HN.out HE0.out
      rw [HE0.out]
      exact ⟨none, 0, rfl, World.ownsRow_nil _ _ _ _, Keeps.refl _ _⟩
end Go.Proofs.YtgaofnmgdefdcaaGreatDoor.Qu
