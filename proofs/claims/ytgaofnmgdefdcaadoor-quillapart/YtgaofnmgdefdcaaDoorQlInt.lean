/- quill.Int: what it answers, what it puts: any way, any number. The condition: strconv's table of tens reads as its text lays it. -/
import Derived.Test.YtgaofnmgdefdcaaDoorJQlWayHufUse
import Derived.Test.YtgaofnmgdefdcaaDoorJQlFindQlInto
import Derived.Test.YtgaofnmgdefdcaaDoorJQlStpQlSrt
import Derived.Test.YtgaofnmgdefdcaaDoorJBitPQHufUQ
import Derived.Test.YtgaofnmgdefdcaaDoorJItfWrDsPl
import Derived.Test.YtgaofnmgdefdcaaDoorJDsAnyDsBack
import Derived.Deep.RegionHeld3
namespace Go.Proofs.YtgaofnmgdefdcaaDoor.Qu
open Go.RowKit Go.Proofs.YtgaofnmgdefdcaaDoor.Ww Go.Proofs.YtgaofnmgdefdcaaDoor.Gen Go.Proofs.YtgaofnmgdefdcaaDoor.Mp Go.Proofs.YtgaofnmgdefdcaaDoor.Cm Go.Proofs.YtgaofnmgdefdcaaDoor.Hr Go.Proofs.YtgaofnmgdefdcaaDoor.Hn Go.Proofs.YtgaofnmgdefdcaaDoor.Hk Go.Proofs.YtgaofnmgdefdcaaDoor.Ln Go.Proofs.YtgaofnmgdefdcaaDoor.Ds Go.Proofs.YtgaofnmgdefdcaaDoor.Ky Go.Proofs.YtgaofnmgdefdcaaDoor.It Go.Proofs.YtgaofnmgdefdcaaDoor.Bp Go.Proofs.YtgaofnmgdefdcaaDoor.Qh Go.Proofs.YtgaofnmgdefdcaaDoor.Qs Go.Proofs.YtgaofnmgdefdcaaDoor.Qf Go.Proofs.YtgaofnmgdefdcaaDoor.Qc Go.Proofs.YtgaofnmgdefdcaaDoor.Qi

/-- A Quill, plain: its row of bits, its blocks' bytes. -/
abbrev St := List Nat × (Nat → Option (List Int))
def cont (G : Gs) : Nat → Option (List Int) := fun i => (G i).map (·.2.2)
def pc (f : Nat → Option (List Int)) (i : Nat) (ys : List Int) : Nat → Option (List Int) := fun j => if j = i then some ys else f j
def hadP (f : Nat → Option (List Int)) (i : Nat) : List Int := (f i).getD []
theorem cont_pu (G : Gs) (i : Nat) (e : W1) : cont (pu G i e) = pc (cont G) i e.2.2 := by
  funext j
  unfold cont pu pc
  split <;> rfl
theorem had_cont (G : Gs) (i : Nat) : had G i = hadP (cont G) i := rfl
/-- Bits that a number of words has. -/
def putW (L : List G) (x : Int) (s : St) : Int × St := match Hu.found (wordsOf (nats' L)) x with
  | none => (11, s)
  | some p => (0, (s.1 ++ tb p.2 p.1, s.2))
def putF (le bi x : Int) (s : St) : Int × St := if x - le < 0 ∨ 2 ^ bi.toNat ≤ x - le then (2, s) else (0, (s.1 ++ tb (x - le).toNat bi.toNat, s.2))
/-- A number, put by a way that may be. -/
def putN (d : D) (x : Int) (s : St) : Int × St :=
  if x < -2147483647 ∨ 2147483647 < x then (2, s) else if d.K = 1 then (0, (s.1, pc s.2 d.B.toNat (hadP s.2 d.B.toNat ++ encInt (sg x)))) else if d.K = 3 then putW d.L x s else putF d.le d.bi x s
def pInt (d : D) (x : Int) (s : St) : Int × St := if chkI d = 0 then putN d x s else (chkI d, s)
/-- What a deed answers, and the Quill behind it. -/
def Did (B g N : Nat) (F : Nat → Prop) (p : Int × St) (w w' : World) (r : Ending) : Prop :=
  ∃ F' G', r = .returned (.int .i64 p.1) ∧ Ql F' B g p.2.1 G' N w' ∧ cont G' = p.2.2 ∧ Step F F' w w'

theorem word_fits {L : List G} (h : newE L = 0) {x : Int} {p : Nat × Nat} (hf : Hu.found (wordsOf (nats' L)) x = some p) : p.1 ≤ 20 ∧ p.2 < 4294967296 := by
  obtain ⟨hlen, herr, hpos⟩ := newE_zero h
  have h1 := (words_spec (nats' L) (right_of herr).sizes hpos).1 _ (Hu.found_mem hf)
  simp only at h1
  have h2 : 2 ^ p.1 ≤ 2 ^ 20 := Nat.pow_le_pow_right (by omega) h1.1
  exact ⟨h1.1, by omega⟩

set_option maxHeartbeats 16000000 in
set_option maxRecDepth 100000 in
theorem int_ (B g : Nat) (F : Nat → Prop) (l : List Nat) (G : Gs) (N : Nat) (A : Option Addr) (n c : Nat) (d : D) (x : Int) (w : World)
    (ht : Tab B w) (hB : B ≤ w.heap.size) (hq : Ql F B g l G N w) (hN : N ≤ 1000) (hl : l.length + 32 ≤ 8000000) (hG : ∀ i, (had G i).length + 9 ≤ 1000000)
    (hL : Ents w A n d.L) (hf : ∀ y ∈ d.L, Fits y) (hE : 0 < n → ∀ b o, A = some ⟨b, o, none⟩ → ¬ F b) (hx : (Lit.int .i64 x).wf = true) :
    Calls Tryd.prog 9 #[.pointer (some ⟨g, 0, none⟩), .agg (dv A n c d), .int .i64 x] w fun r w' => Did B g (N + 1) F (pInt d x (l, cont G)) w w' r := by
  obtain ⟨q, hqe⟩ : ∃ q, q = w.heap.size := ⟨_, rfl⟩
  obtain ⟨W, hW⟩ : ∃ W, W = w.alloc (.cells (dv A n c d) 25) := ⟨_, rfl⟩
  have hk1 : Keeps (fun _ => False) w W.drew := by rw [hW]; exact ((Keeps.refl _ _).alloc _).drewN 1
  have HBX : Hid (Blk W q 25 (dv A n c d)) := by show Blk _ _ _ _; rw [hW, hqe]; exact Blk.new _ _ _
  obtain ⟨Fb, Fc, v, mb, mc, h⟩ := hq.more hk1
  obtain ⟨last, o, hb, hr⟩ := row_cells h.row
  have hqF : ∀ k, F k → k ≠ q := fun k hk e => by
    have := hq.lt k hk
    omega
  have HCO := Lib.hid (ints_ B g 4 62 #[v, .int .u64 last, .int .i64 o, mb, mc] Fc N mc A n c d W.drew (ht.more hB hk1) (Nat.le_trans hB hk1.size) hb rfl h.ing.2.2 (h.low g h.ing.1) h.kept hN (hL.more hk1) hf (fun h0 b o e => ⟨fun e' => hE h0 b o e (e' ▸ h.ing.1), fun e' => hE h0 b o e ((h.all b).2 (.inr (.inr e')))⟩))
  have HK1 := Lib.hid hk1
  have HH := Lib.hid h
  have HR := Lib.hid hr
  have HQF := Lib.hid hqF
  have HBW : Hid (B ≤ W.drew.heap.size) := Nat.le_trans hB hk1.size
  have HGL := Lib.hid hG
  have HLL := Lib.hid hl
  have HNE := Lib.hid (h.ing)
  obtain ⟨ck, hck⟩ : ∃ ck, chkI d = ck := ⟨_, rfl⟩
  obtain ⟨p, hp⟩ : ∃ p, pInt d x (l, cont G) = p := ⟨_, rfl⟩
  rw [hp]
  have HP : Hid (p = if ck = 0 then putN d x (l, cont G) else (ck, (l, cont G))) := by show p = _; rw [← hp, ← hck]; rfl
  unfold CodedD at HCO
  rw [hck] at HCO
  have HCK := Lib.hid hck
  clear hck hp hk1 h hb hr hqF hG hl hq hL hf hE ht
  obtain ⟨K, Bl, L, le, bi⟩ := d
  unfold dv at HCO HBX hW ⊢
  simp only at HCO HBX hW HCK HP ⊢
  have x0 := HBX.out.cell 0
  have x1 := HBX.out.cell 1
  have x2 := HBX.out.cell 2
  have x3 := HBX.out.cell 3
  have x4 := HBX.out.cell 4
  simp only [List.getElem?_toArray, List.getElem?_cons_zero, List.getElem?_cons_succ] at x0 x1 x2 x3 x4
  go_enter Tryd.func9, Tryd.ntmps9
  go_upto_region 3 with fail
  rw [← hqe, ← hW]
  clear hqe hW
  go_region_held3 (fun w' => w'.cell? ⟨q, 0, none⟩ = some (.int .u8 K) ∧ w'.cell? ⟨q, 1, none⟩ = some (.int .i64 Bl) ∧ w'.cell? ⟨q, 2, none⟩ = some (.slice A n c) ∧ w'.cell? ⟨q, 3, none⟩ = some (.int .i64 le) ∧ w'.cell? ⟨q, 4, none⟩ = some (.int .i64 bi)) (go_keep)
    ((have H := HCO; go_at_call 20; refine H.out.mono ?_; rintro r w1 ⟨pp, mc', Fc', rfl, h1, h2, h3, h4, h5⟩; have H1 := Lib.hid h1; have H2 := Lib.hid h2; have H3 := Lib.hid h3; have H4 := Lib.hid h4; have H5 := Lib.hid h5; have HX1 := Lib.hid (Blk.keeps (w := W.drew) HBX.out h4.keeps (fun e => e.elim (fun e => HQF.out g HNE.out.1 e.symm) (fun e => HQF.out q ((HH.out.all q).2 (.inr (.inr e))) rfl))); have y0 := HX1.out.cell 0; have y1 := HX1.out.cell 1; have y2 := HX1.out.cell 2; have y3 := HX1.out.cell 3; have y4 := HX1.out.cell 4; simp only [List.getElem?_toArray, List.getElem?_cons_zero, List.getElem?_cons_succ] at y0 y1 y2 y3 y4; clear h1 h2 h3 h4 h5 HCO))
  obtain ⟨hq1, hs1⟩ := HH.out.kept' HBW.out HR.out (by exact H1.out) H2.out H3.out H4.out
  have HQ1 := Lib.hid hq1
  have HS1 := Lib.hid (Step.pre HK1.out hs1)
  have HB1 : Hid (B ≤ w1.heap.size) := Nat.le_trans HBW.out hs1.keeps.size
  clear hq1 hs1
  by_cases h0 : ck = 0
  · subst h0
    have HPN : Hid (p = putN ⟨K, Bl, L, le, bi⟩ x (l, cont G)) := by show p = _; rw [HP.out, if_pos rfl]
    clear HP
    by_cases hx1 : x < -2147483647
    · go_wp2
      go_ret
      have e : p = (2, (l, cont G)) := by rw [HPN.out, putN, if_pos (.inl hx1)]
      rw [e]
      exact ⟨_, G, rfl, ⟨_, _, _, _, _, HQ1.out⟩, rfl, HS1.out⟩
    by_cases hx2 : 2147483647 < x
    · go_wp2
      go_ret
      have e : p = (2, (l, cont G)) := by rw [HPN.out, putN, if_pos (.inr hx2)]
      rw [e]
      exact ⟨_, G, rfl, ⟨_, _, _, _, _, HQ1.out⟩, rfl, HS1.out⟩
    have hx3 : ¬ (x > 2147483647) := by omega
    have HPM : Hid (p = if K = 1 then (0, (l, pc (cont G) Bl.toNat (hadP (cont G) Bl.toNat ++ encInt (sg x)))) else if K = 3 then putW L x (l, cont G) else putF le bi x (l, cont G)) := by
      show p = _
      rw [HPN.out, putN, if_neg (by omega)]
    clear HPN
    rcases chkI_in HCK.out with ⟨hK, hb1, hb2⟩ | ⟨hK, hw⟩ | ⟨hK, hle, hbi0, hbi1⟩
    · simp only at hK hb1 hb2
      subst hK
      obtain ⟨i, rfl⟩ := Int.eq_ofNat_of_zero_le (show 0 ≤ Bl by omega)
      have HPK : Hid (p = (0, (l, pc (cont G) i (hadP (cont G) i ++ encInt (sg x))))) := by show p = _; rw [HPM.out, if_pos rfl]; rfl
      obtain ⟨last1, o1, hbl1, hr1⟩ := row_cells HQ1.out.row
      have HIN := Lib.hid (into_ g 62 #[v, .int .u64 last1, .int .i64 o1, mb, mc'] Fb mb G i w1 (by omega) hbl1 rfl HQ1.out.ing.2.1 HQ1.out.wms)
      have HR1 := Lib.hid hr1
      clear hbl1 hr1 HPM
      go_wp2_with fail
      refine HIN.out.mono ?_
      rintro r w2 ⟨gi, vi, mb', Fb', rfl, j1, j2, j3, j4⟩
      have J := Lib.hid (HQ1.out.wms' HB1.out HR1.out (by exact j1) j2 j3 j4)
      have hwr : IsWr 0 gi vi (had G i) w2 := by
        rcases j3.2 with ⟨_, hn⟩ | ⟨b, _, hm⟩
        · have := hn i
          simp [pu] at this
        · exact (hm.wr i _ (pu_at G i _)).2.1
      have HSG := Lib.hid (Iw.signed gi 0 vi (had G i) x w2 hwr (HGL.out i))
      clear j1 j2 j3 j4 HIN hwr
      go_wp2_with fail
      refine HSG.out.mono ?_
      rintro r w3 hp
      obtain rfl := hp.1
      have HPU := Lib.hid hp
      clear hp HSG
      go_wp2
      go_ret
      obtain ⟨jq, js⟩ := J.out
      obtain ⟨F', v', hq', hs'⟩ := jq.put' (Nat.le_trans HB1.out js.keeps.size) (pu_at G i _) HPU.out
      rw [HPK.out]
      refine ⟨F', _, rfl, hq', ?_, (HS1.out.trans js).trans hs'⟩
      rw [pu_pu, cont_pu]
      rfl
    · simp only at hK hw
      subst hK
      obtain ⟨pc, rfl, hcd⟩ := H5.out rfl rfl
      have HPK : Hid (p = putW L x (l, cont G)) := by show p = _; rw [HPM.out, if_neg (by decide), if_pos rfl]
      have HCD := Lib.hid hcd
      clear hcd HPM
      cases hfo : Hu.found (wordsOf (nats' L)) x with
      | none =>
        have HRO := Lib.hid (Hu.put_no 0 pc (wordsOf (nats' L)) x (some ⟨g, 0, none⟩) w1 HCD.out.out hx hfo)
        have HPE : Hid (p = (11, (l, cont G))) := by show p = _; rw [HPK.out, putW, hfo]
        clear hfo
        go_wp2_with fail
        refine HRO.out.mono ?_
        rintro r w2 ⟨rfl, hk2⟩
        have HK2 := Lib.hid hk2
        clear hk2 HRO
        go_wp2
        go_ret
        rw [HPE.out]
        exact ⟨_, G, rfl, ⟨_, _, _, _, _, HQ1.out.keeps HK2.out fun _ _ => id⟩, rfl, HS1.out.more HK2.out⟩
      | some zv =>
        obtain ⟨z, vv⟩ := zv
        obtain ⟨hz, hv⟩ := word_fits hw hfo
        simp only at hz hv
        have HRO := Lib.hid (Bq.put_some 0 pc (wordsOf (nats' L)) x z vv 0 g v l w1 HCD.out.out hx hfo (by omega) hv HQ1.out.row HLL.out)
        have HPE : Hid (p = (0, (l ++ tb vv z, cont G))) := by show p = _; rw [HPK.out, putW, hfo]
        clear hfo
        go_wp2_with fail
        refine HRO.out.mono ?_
        rintro r w2 ⟨rfl, v', hr2, hm2⟩
        have HR2 := Lib.hid (HQ1.out.row' HB1.out hr2 hm2)
        clear hr2 hm2 HRO
        go_wp2
        go_ret
        obtain ⟨F', hq', hs'⟩ := HR2.out
        rw [HPE.out]
        exact ⟨F', G, rfl, hq', rfl, HS1.out.trans hs'⟩
    · simp only at hK hle hbi0 hbi1
      subst hK
      have HPK : Hid (p = putF le bi x (l, cont G)) := by show p = _; rw [HPM.out, if_neg (by decide), if_neg (by decide)]
      clear HPM
      obtain ⟨b, rfl⟩ := Int.eq_ofNat_of_zero_le hbi0
      obtain ⟨m, hm⟩ : ∃ m, x - le = m := ⟨_, rfl⟩
      have hms : IntKind.i64.wrap (x - le) = m := by rw [hm]; exact IntWalk.i64_in _ (by omega)
      have hpw : (2 : Int) ^ b ≤ 2147483648 := by
        have h1 := Nat.pow_le_pow_right (n := 2) (by decide) (show b ≤ 31 by omega)
        have h2 : (2 : Int) ^ b = ((2 ^ b : Nat) : Int) := by simp
        omega
      have HMR : Hid (-4294967294 ≤ m ∧ m ≤ 4294967294) := by show _ ∧ _; omega
      obtain ⟨Z, hZ⟩ : ∃ Z, (2 : Int) ^ b = Z := ⟨_, rfl⟩
      rw [hZ] at hpw
      have hZ1 : 1 ≤ Z := by
        rw [← hZ]
        have h2 : (2 : Int) ^ b = ((2 ^ b : Nat) : Int) := by simp
        have := Nat.two_pow_pos b
        omega
      have hsh : IntKind.i64.wrap (2 ^ b) = Z := by rw [hZ]; exact IntWalk.i64_in _ (by omega)
      have HPE : Hid (p = if m < 0 ∨ Z ≤ m then (2, (l, cont G)) else (0, (l ++ tb m.toNat b, cont G))) := by
        show p = _
        rw [HPK.out, putF, hm, show ((b : Int)).toNat = b from Int.toNat_natCast b, hZ]
      have HZ := Lib.hid hZ
      have HM := Lib.hid hm
      have hb0 : (0 : Int) ≤ (b : Int) := by omega
      have hbn : ((b : Int)).toNat = b := Int.toNat_natCast b
      clear hZ hm HPK
      by_cases hm0 : m < 0
      · go_wp2
        go_ret
        rw [HPE.out, if_pos (.inl hm0)]
        exact ⟨_, G, rfl, ⟨_, _, _, _, _, HQ1.out⟩, rfl, HS1.out⟩
      by_cases hmZ : Z ≤ m
      · go_wp2
        go_ret
        rw [HPE.out, if_pos (.inr hmZ)]
        exact ⟨_, G, rfl, ⟨_, _, _, _, _, HQ1.out⟩, rfl, HS1.out⟩
      · obtain ⟨mn, rfl⟩ := Int.eq_ofNat_of_zero_le (show 0 ≤ m by omega)
        have hwm : IntKind.u32.wrap (mn : Int) = (mn : Int) := IntWalk.u32_in _ (by omega)
        have hlt : (mn : Int) < Z := by omega
        have HRO := Lib.hid (Bq.put g 0 v l mn (b : Int) w1.drew (HQ1.out.row.keeps ((Keeps.refl (fun _ => False) w1).drewN 1) fun _ _ => id) HLL.out (by omega))
        have HSZ : Hid (Bf.sz (b : Int) = b) := by show Bf.sz (b : Int) = b; unfold Bf.sz; omega
        go_upto_region 18 with fail
        go_region_held3 (fun w' => w'.cell? ⟨q, 4, none⟩ = some (.int .i64 b)) (go_keep)
          ((have H := HRO; go_at_call 24; refine H.out.mono ?_; rintro r w2 ⟨rfl, v', hr2, hm2⟩; have HR2 := Lib.hid ((HQ1.out.keeps ((Keeps.refl (fun _ => False) w1).drewN 1) fun _ _ => id).row' HB1.out hr2 hm2); have z4 : w2.cell? ⟨q, 4, none⟩ = some (.int .i64 b) := (Blk.keeps (w := w1.drew) HX1.out hm2.keeps (fun e => HQF.out q ((HH.out.all q).2 (.inl e)) rfl)).cell 4; clear hr2 hm2 HRO))
        go_wp2
        go_ret
        obtain ⟨F', hq', hs'⟩ := HR2.out
        rw [HPE.out, if_neg (by omega)]
        refine ⟨F', G, rfl, ?_, rfl, HS1.out.trans hs'.of_drew⟩
        rw [HSZ.out] at hq'
        exact hq'
  · have hne : (ck != 0) = true := by simpa using h0
    go_wp2
    go_ret
    have e : p = (ck, (l, cont G)) := by rw [HP.out, if_neg h0]
    rw [e]
    exact ⟨_, G, rfl, ⟨_, _, _, _, _, HQ1.out⟩, rfl, HS1.out⟩
end Go.Proofs.YtgaofnmgdefdcaaDoor.Qu
