/- quill.Int: what it answers, what it puts: any way, any number. The condition: strconv's table of tens reads as its text lays it. -/
/- lens.outside, next, number: any way. The condition: strconv's table of tens reads as its text lays it. -/
import Derived.Test.YtgaofnmgdefdcaaGreatDoorJQlCodeHufUse
import Derived.Test.YtgaofnmgdefdcaaGreatDoorJQlFindQlInto
import Derived.Test.YtgaofnmgdefdcaaGreatDoorJQlStpQlSrt
import Derived.Test.YtgaofnmgdefdcaaGreatDoorJHufTakeHufUQ
import Derived.Test.YtgaofnmgdefdcaaGreatDoorJItfWrDsPl
import Derived.Test.YtgaofnmgdefdcaaGreatDoorJDsAnyDsBack
import Derived.Deep.RegionHeld3
import Derived.Test.YtgaofnmgdefdcaaGreatDoorJBitRdLnSt

namespace Go.Proofs.YtgaofnmgdefdcaaGreatDoor.Qu
open Go.RowKit Go.Proofs.YtgaofnmgdefdcaaGreatDoor.Ww Go.Proofs.YtgaofnmgdefdcaaGreatDoor.Gen Go.Proofs.YtgaofnmgdefdcaaGreatDoor.Mp Go.Proofs.YtgaofnmgdefdcaaGreatDoor.Cm Go.Proofs.YtgaofnmgdefdcaaGreatDoor.Hr Go.Proofs.YtgaofnmgdefdcaaGreatDoor.Hn Go.Proofs.YtgaofnmgdefdcaaGreatDoor.Hk Go.Proofs.YtgaofnmgdefdcaaGreatDoor.Ln Go.Proofs.YtgaofnmgdefdcaaGreatDoor.Ds Go.Proofs.YtgaofnmgdefdcaaGreatDoor.Ky Go.Proofs.YtgaofnmgdefdcaaGreatDoor.It Go.Proofs.YtgaofnmgdefdcaaGreatDoor.Bp Go.Proofs.YtgaofnmgdefdcaaGreatDoor.Qh Go.Proofs.YtgaofnmgdefdcaaGreatDoor.Qs Go.Proofs.YtgaofnmgdefdcaaGreatDoor.Qf Go.Proofs.YtgaofnmgdefdcaaGreatDoor.Qc Go.Proofs.YtgaofnmgdefdcaaGreatDoor.Qi

/-- A Quill, plain: its row of bits, its blocks' bytes. -/
abbrev St := List Nat × (Nat → Option (List Int))
def cont (G : Gs) : Nat → Option (List Int) := fun i => (G i).map (·.2.2)
def pc (f : Nat → Option (List Int)) (i : Nat) (ys : List Int) : Nat → Option (List Int) := fun j => if j = i then some ys else f j
def hadP (f : Nat → Option (List Int)) (i : Nat) : List Int := (f i).getD []
theorem cont_pu (G : Gs) (i : Nat) (e : W1) : cont (pu G i e) = pc (cont G) i e.2.2 := by
  funext j
  unfold cont pu pc
  split <;> rfl
theorem had_cont (G : Gs) (i : Nat) : had G i = hadP (cont G) i := rfl
/-- Bits that a number of words has. -/
def putW (L : List G) (x : Int) (s : St) : Int × St := match Hu.found (wordsOf (nats' L)) x with
  | none => (11, s)
  | some p => (0, (s.1 ++ tb p.2 p.1, s.2))
def putF (le bi x : Int) (s : St) : Int × St := if x - le < 0 ∨ 2 ^ bi.toNat ≤ x - le then (2, s) else (0, (s.1 ++ tb (x - le).toNat bi.toNat, s.2))
/-- A number, put by a way that may be. -/
def putN (d : D) (x : Int) (s : St) : Int × St :=
  if x < -2147483647 ∨ 2147483647 < x then (2, s) else if d.K = 1 then (0, (s.1, pc s.2 d.B.toNat (hadP s.2 d.B.toNat ++ encInt (sg x)))) else if d.K = 3 then putW d.L x s else putF d.le d.bi x s
def pInt (d : D) (x : Int) (s : St) : Int × St := if chkI d = 0 then putN d x s else (chkI d, s)
/-- What a deed answers, and the Quill behind it. -/
def Did (B g N : Nat) (F : Nat → Prop) (p : Int × St) (w w' : World) (r : Ending) : Prop :=
  ∃ F' G', r = .returned (.int .i64 p.1) ∧ Ql F' B g p.2.1 G' N w' ∧ cont G' = p.2.2 ∧ Step F F' w w'

theorem word_fits {L : List G} (h : newE L = 0) {x : Int} {p : Nat × Nat} (hf : Hu.found (wordsOf (nats' L)) x = some p) : p.1 ≤ 20 ∧ p.2 < 4294967296 := by
  obtain ⟨hlen, herr, hpos⟩ := newE_zero h
  have h1 := (words_spec (nats' L) (right_of herr).sizes hpos).1 _ (Hu.found_mem hf)
  simp only at h1
  have h2 : 2 ^ p.1 ≤ 2 ^ 20 := Nat.pow_le_pow_right (by omega) h1.1
  exact ⟨h1.1, by omega⟩

set_option maxHeartbeats 16000000 in
set_option maxRecDepth 100000 in
theorem int_ (B g : Nat) (F : Nat → Prop) (l : List Nat) (G : Gs) (N : Nat) (A : Option Addr) (n c : Nat) (d : D) (x : Int) (w : World)
    (ht : Tab B w) (hB : B ≤ w.heap.size) (hq : Ql F B g l G N w) (hN : N ≤ 1000) (hl : l.length + 32 ≤ 8000000) (hG : ∀ i, (had G i).length + 9 ≤ 1000000)
    (hL : Ents w A n d.L) (hf : ∀ y ∈ d.L, Fits y) (hE : 0 < n → ∀ b o, A = some ⟨b, o, none⟩ → ¬ F b) (hx : (Lit.int .i64 x).wf = true) :
    Calls Tryz.prog 15 #[.pointer (some ⟨g, 0, none⟩), .agg (dv A n c d), .int .i64 x] w fun r w' => Did B g (N + 1) F (pInt d x (l, cont G)) w w' r := by
  obtain ⟨q, hqe⟩ : ∃ q, q = w.heap.size := ⟨_, rfl⟩
  obtain ⟨W, hW⟩ : ∃ W, W = w.alloc (.cells (dv A n c d) 43) := ⟨_, rfl⟩
  have hk1 : Keeps (fun _ => False) w W.drew := by rw [hW]; exact ((Keeps.refl _ _).alloc _).drewN 1
  have HBX : Hid (Blk W q 43 (dv A n c d)) := by show Blk _ _ _ _; rw [hW, hqe]; exact Blk.new _ _ _
  obtain ⟨Fb, Fc, v, mb, mc, h⟩ := hq.more hk1
  obtain ⟨last, o, hb, hr⟩ := row_cells h.row
  have hqF : ∀ k, F k → k ≠ q := fun k hk e => by
    have := hq.lt k hk
    omega
  have HCO := Lib.hid (ints_ B g 4 77 #[v, .int .u64 last, .int .i64 o, mb, mc] Fc N mc A n c d W.drew (ht.more hB hk1) (Nat.le_trans hB hk1.size) hb rfl h.ing.2.2 (h.low g h.ing.1) h.kept hN (hL.more hk1) hf (fun h0 b o e => ⟨fun e' => hE h0 b o e (e' ▸ h.ing.1), fun e' => hE h0 b o e ((h.all b).2 (.inr (.inr e')))⟩))
  have HK1 := Lib.hid hk1
  have HH := Lib.hid h
  have HR := Lib.hid hr
  have HQF := Lib.hid hqF
  have HBW : Hid (B ≤ W.drew.heap.size) := Nat.le_trans hB hk1.size
  have HGL := Lib.hid hG
  have HLL := Lib.hid hl
  have HNE := Lib.hid (h.ing)
  obtain ⟨ck, hck⟩ : ∃ ck, chkI d = ck := ⟨_, rfl⟩
  obtain ⟨p, hp⟩ : ∃ p, pInt d x (l, cont G) = p := ⟨_, rfl⟩
  rw [hp]
  have HP : Hid (p = if ck = 0 then putN d x (l, cont G) else (ck, (l, cont G))) := by show p = _; rw [← hp, ← hck]; rfl
  unfold CodedD at HCO
  rw [hck] at HCO
  have HCK := Lib.hid hck
  clear hck hp hk1 h hb hr hqF hG hl hq hL hf hE ht
  obtain ⟨K, Bl, L, le, bi⟩ := d
  unfold dv at HCO HBX hW ⊢
  simp only at HCO HBX hW HCK HP ⊢
  have x0 := HBX.out.cell 0
  have x1 := HBX.out.cell 1
  have x2 := HBX.out.cell 2
  have x3 := HBX.out.cell 3
  have x4 := HBX.out.cell 4
  simp only [List.getElem?_toArray, List.getElem?_cons_zero, List.getElem?_cons_succ] at x0 x1 x2 x3 x4
  go_enter Tryz.func15, Tryz.ntmps15
  go_upto_region 3 with fail
  rw [← hqe, ← hW]
  clear hqe hW
  go_region_held3 (fun w' => w'.cell? ⟨q, 0, none⟩ = some (.int .u8 K) ∧ w'.cell? ⟨q, 1, none⟩ = some (.int .i64 Bl) ∧ w'.cell? ⟨q, 2, none⟩ = some (.slice A n c) ∧ w'.cell? ⟨q, 3, none⟩ = some (.int .i64 le) ∧ w'.cell? ⟨q, 4, none⟩ = some (.int .i64 bi)) (go_keep)
    ((have H := HCO; go_at_call 36; refine H.out.mono ?_; rintro r w1 ⟨pp, mc', Fc', rfl, h1, h2, h3, h4, h5⟩; have H1 := Lib.hid h1; have H2 := Lib.hid h2; have H3 := Lib.hid h3; have H4 := Lib.hid h4; have H5 := Lib.hid h5; have HX1 := Lib.hid (Blk.keeps (w := W.drew) HBX.out h4.keeps (fun e => e.elim (fun e => HQF.out g HNE.out.1 e.symm) (fun e => HQF.out q ((HH.out.all q).2 (.inr (.inr e))) rfl))); have y0 := HX1.out.cell 0; have y1 := HX1.out.cell 1; have y2 := HX1.out.cell 2; have y3 := HX1.out.cell 3; have y4 := HX1.out.cell 4; simp only [List.getElem?_toArray, List.getElem?_cons_zero, List.getElem?_cons_succ] at y0 y1 y2 y3 y4; clear h1 h2 h3 h4 h5 HCO))
  obtain ⟨hq1, hs1⟩ := HH.out.kept' HBW.out HR.out (by exact H1.out) H2.out H3.out H4.out
  have HQ1 := Lib.hid hq1
  have HS1 := Lib.hid (Step.pre HK1.out hs1)
  have HB1 : Hid (B ≤ w1.heap.size) := Nat.le_trans HBW.out hs1.keeps.size
  clear hq1 hs1
  by_cases h0 : ck = 0
  · subst h0
    have HPN : Hid (p = putN ⟨K, Bl, L, le, bi⟩ x (l, cont G)) := by show p = _; rw [HP.out, if_pos rfl]
    clear HP
    by_cases hx1 : x < -2147483647
    · go_wp2
      go_ret
      have e : p = (2, (l, cont G)) := by rw [HPN.out, putN, if_pos (.inl hx1)]
      rw [e]
      exact ⟨_, G, rfl, ⟨_, _, _, _, _, HQ1.out⟩, rfl, HS1.out⟩
    by_cases hx2 : 2147483647 < x
    · go_wp2
      go_ret
      have e : p = (2, (l, cont G)) := by rw [HPN.out, putN, if_pos (.inr hx2)]
      rw [e]
      exact ⟨_, G, rfl, ⟨_, _, _, _, _, HQ1.out⟩, rfl, HS1.out⟩
    have hx3 : ¬ (x > 2147483647) := by omega
    have HPM : Hid (p = if K = 1 then (0, (l, pc (cont G) Bl.toNat (hadP (cont G) Bl.toNat ++ encInt (sg x)))) else if K = 3 then putW L x (l, cont G) else putF le bi x (l, cont G)) := by
      show p = _
      rw [HPN.out, putN, if_neg (by omega)]
    clear HPN
    rcases chkI_in HCK.out with ⟨hK, hb1, hb2⟩ | ⟨hK, hw⟩ | ⟨hK, hle, hbi0, hbi1⟩
    · simp only at hK hb1 hb2
      subst hK
      obtain ⟨i, rfl⟩ := Int.eq_ofNat_of_zero_le (show 0 ≤ Bl by omega)
      have HPK : Hid (p = (0, (l, pc (cont G) i (hadP (cont G) i ++ encInt (sg x))))) := by show p = _; rw [HPM.out, if_pos rfl]; rfl
      obtain ⟨last1, o1, hbl1, hr1⟩ := row_cells HQ1.out.row
      have HIN := Lib.hid (into_ g 77 #[v, .int .u64 last1, .int .i64 o1, mb, mc'] Fb mb G i w1 (by omega) hbl1 rfl HQ1.out.ing.2.1 HQ1.out.wms)
      have HR1 := Lib.hid hr1
      clear hbl1 hr1 HPM
      go_wp2_with fail
      refine HIN.out.mono ?_
      rintro r w2 ⟨gi, vi, mb', Fb', rfl, j1, j2, j3, j4⟩
      have J := Lib.hid (HQ1.out.wms' HB1.out HR1.out (by exact j1) j2 j3 j4)
      have hwr : IsWr 0 gi vi (had G i) w2 := by
        rcases j3.2 with ⟨_, hn⟩ | ⟨b, _, hm⟩
        · have := hn i
          simp [pu] at this
        · exact (hm.wr i _ (pu_at G i _)).2.1
      have HSG := Lib.hid (Iw.signed gi 0 vi (had G i) x w2 hwr (HGL.out i))
      clear j1 j2 j3 j4 HIN hwr
      go_wp2_with fail
      refine HSG.out.mono ?_
      rintro r w3 hp
      obtain rfl := hp.1
      have HPU := Lib.hid hp
      clear hp HSG
      go_wp2
      go_ret
      obtain ⟨jq, js⟩ := J.out
      obtain ⟨F', v', hq', hs'⟩ := jq.put' (Nat.le_trans HB1.out js.keeps.size) (pu_at G i _) HPU.out
      rw [HPK.out]
      refine ⟨F', _, rfl, hq', ?_, (HS1.out.trans js).trans hs'⟩
      rw [pu_pu, cont_pu]
      rfl
    · simp only at hK hw
      subst hK
      obtain ⟨pc, rfl, hcd⟩ := H5.out rfl rfl
      have HPK : Hid (p = putW L x (l, cont G)) := by show p = _; rw [HPM.out, if_neg (by decide), if_pos rfl]
      have HCD := Lib.hid hcd
      clear hcd HPM
      cases hfo : Hu.found (wordsOf (nats' L)) x with
      | none =>
        have HRO := Lib.hid (Hu.put_no 0 pc (wordsOf (nats' L)) x (some ⟨g, 0, none⟩) w1 HCD.out.out hx hfo)
        have HPE : Hid (p = (11, (l, cont G))) := by show p = _; rw [HPK.out, putW, hfo]
        clear hfo
        go_wp2_with fail
        refine HRO.out.mono ?_
        rintro r w2 ⟨rfl, hk2⟩
        have HK2 := Lib.hid hk2
        clear hk2 HRO
        go_wp2
        go_ret
        rw [HPE.out]
        exact ⟨_, G, rfl, ⟨_, _, _, _, _, HQ1.out.keeps HK2.out fun _ _ => id⟩, rfl, HS1.out.more HK2.out⟩
      | some zv =>
        obtain ⟨z, vv⟩ := zv
        obtain ⟨hz, hv⟩ := word_fits hw hfo
        simp only at hz hv
        have HRO := Lib.hid (Bq.put_some 0 pc (wordsOf (nats' L)) x z vv 0 g v l w1 HCD.out.out hx hfo (by omega) hv HQ1.out.row HLL.out)
        have HPE : Hid (p = (0, (l ++ tb vv z, cont G))) := by show p = _; rw [HPK.out, putW, hfo]
        clear hfo
        go_wp2_with fail
        refine HRO.out.mono ?_
        rintro r w2 ⟨rfl, v', hr2, hm2⟩
        have HR2 := Lib.hid (HQ1.out.row' HB1.out hr2 hm2)
        clear hr2 hm2 HRO
        go_wp2
        go_ret
        obtain ⟨F', hq', hs'⟩ := HR2.out
        rw [HPE.out]
        exact ⟨F', G, rfl, hq', rfl, HS1.out.trans hs'⟩
    · simp only at hK hle hbi0 hbi1
      subst hK
      have HPK : Hid (p = putF le bi x (l, cont G)) := by show p = _; rw [HPM.out, if_neg (by decide), if_neg (by decide)]
      clear HPM
      obtain ⟨b, rfl⟩ := Int.eq_ofNat_of_zero_le hbi0
      obtain ⟨m, hm⟩ : ∃ m, x - le = m := ⟨_, rfl⟩
      have hms : IntKind.i64.wrap (x - le) = m := by rw [hm]; exact IntWalk.i64_in _ (by omega)
      have hpw : (2 : Int) ^ b ≤ 2147483648 := by
        have h1 := Nat.pow_le_pow_right (n := 2) (by decide) (show b ≤ 31 by omega)
        have h2 : (2 : Int) ^ b = ((2 ^ b : Nat) : Int) := by simp
        omega
      have HMR : Hid (-4294967294 ≤ m ∧ m ≤ 4294967294) := by show _ ∧ _; omega
      obtain ⟨Z, hZ⟩ : ∃ Z, (2 : Int) ^ b = Z := ⟨_, rfl⟩
      rw [hZ] at hpw
      have hZ1 : 1 ≤ Z := by
        rw [← hZ]
        have h2 : (2 : Int) ^ b = ((2 ^ b : Nat) : Int) := by simp
        have := Nat.two_pow_pos b
        omega
      have hsh : IntKind.i64.wrap (2 ^ b) = Z := by rw [hZ]; exact IntWalk.i64_in _ (by omega)
      have HPE : Hid (p = if m < 0 ∨ Z ≤ m then (2, (l, cont G)) else (0, (l ++ tb m.toNat b, cont G))) := by
        show p = _
        rw [HPK.out, putF, hm, show ((b : Int)).toNat = b from Int.toNat_natCast b, hZ]
      have HZ := Lib.hid hZ
      have HM := Lib.hid hm
      have hb0 : (0 : Int) ≤ (b : Int) := by omega
      have hbn : ((b : Int)).toNat = b := Int.toNat_natCast b
      clear hZ hm HPK
      by_cases hm0 : m < 0
      · go_wp2
        go_ret
        rw [HPE.out, if_pos (.inl hm0)]
        exact ⟨_, G, rfl, ⟨_, _, _, _, _, HQ1.out⟩, rfl, HS1.out⟩
      by_cases hmZ : Z ≤ m
      · go_wp2
        go_ret
        rw [HPE.out, if_pos (.inr hmZ)]
        exact ⟨_, G, rfl, ⟨_, _, _, _, _, HQ1.out⟩, rfl, HS1.out⟩
      · obtain ⟨mn, rfl⟩ := Int.eq_ofNat_of_zero_le (show 0 ≤ m by omega)
        have hwm : IntKind.u32.wrap (mn : Int) = (mn : Int) := IntWalk.u32_in _ (by omega)
        have hlt : (mn : Int) < Z := by omega
        have HRO := Lib.hid (Bq.put g 0 v l mn (b : Int) w1.drew (HQ1.out.row.keeps ((Keeps.refl (fun _ => False) w1).drewN 1) fun _ _ => id) HLL.out (by omega))
        have HSZ : Hid (Bf.sz (b : Int) = b) := by show Bf.sz (b : Int) = b; unfold Bf.sz; omega
        go_upto_region 18 with fail
        go_region_held3 (fun w' => w'.cell? ⟨q, 4, none⟩ = some (.int .i64 b)) (go_keep)
          ((have H := HRO; go_at_call 39; refine H.out.mono ?_; rintro r w2 ⟨rfl, v', hr2, hm2⟩; have HR2 := Lib.hid ((HQ1.out.keeps ((Keeps.refl (fun _ => False) w1).drewN 1) fun _ _ => id).row' HB1.out hr2 hm2); have z4 : w2.cell? ⟨q, 4, none⟩ = some (.int .i64 b) := (Blk.keeps (w := w1.drew) HX1.out hm2.keeps (fun e => HQF.out q ((HH.out.all q).2 (.inl e)) rfl)).cell 4; clear hr2 hm2 HRO))
        go_wp2
        go_ret
        obtain ⟨F', hq', hs'⟩ := HR2.out
        rw [HPE.out, if_neg (by omega)]
        refine ⟨F', G, rfl, ?_, rfl, HS1.out.trans hs'.of_drew⟩
        rw [HSZ.out] at hq'
        exact hq'
  · have hne : (ck != 0) = true := by simpa using h0
    go_wp2
    go_ret
    have e : p = (ck, (l, cont G)) := by rw [HP.out, if_neg h0]
    rw [e]
    exact ⟨_, G, rfl, ⟨_, _, _, _, _, HQ1.out⟩, rfl, HS1.out⟩
end Go.Proofs.YtgaofnmgdefdcaaGreatDoor.Qu

namespace Go.Proofs.YtgaofnmgdefdcaaGreatDoor.Le
open Go.RowKit Go.Proofs.YtgaofnmgdefdcaaGreatDoor.Gen Go.Proofs.YtgaofnmgdefdcaaGreatDoor.Hu Go.Proofs.YtgaofnmgdefdcaaGreatDoor.Mp Go.Proofs.YtgaofnmgdefdcaaGreatDoor.Cm Go.Proofs.YtgaofnmgdefdcaaGreatDoor.Hr Go.Proofs.YtgaofnmgdefdcaaGreatDoor.Hn Go.Proofs.YtgaofnmgdefdcaaGreatDoor.Hk Go.Proofs.YtgaofnmgdefdcaaGreatDoor.Ln Go.Proofs.YtgaofnmgdefdcaaGreatDoor.Ds Go.Proofs.YtgaofnmgdefdcaaGreatDoor.Ky Go.Proofs.YtgaofnmgdefdcaaGreatDoor.Wr Go.Proofs.YtgaofnmgdefdcaaGreatDoor.Ir Go.Proofs.YtgaofnmgdefdcaaGreatDoor.Br Go.Proofs.YtgaofnmgdefdcaaGreatDoor.Qh Go.Proofs.YtgaofnmgdefdcaaGreatDoor.Qs Go.Proofs.YtgaofnmgdefdcaaGreatDoor.Qf Go.Proofs.YtgaofnmgdefdcaaGreatDoor.Qc Go.Proofs.YtgaofnmgdefdcaaGreatDoor.It Go.Proofs.YtgaofnmgdefdcaaGreatDoor.Qi Go.Proofs.YtgaofnmgdefdcaaGreatDoor.Ww

theorem zero_ir (w : World) : (zeroValue 110).run Tryz.prog w = .ok (.agg #[.pointer none]) w := by kernel_rfl
/-- What a block's next number is, and what is wrong; its Reader behind it. -/
def OutR (G : Rs) (i : Nat) (n e : Int) (G' : Rs) : Prop := match G i with
  | none => n = 0 ∧ e = 11 ∧ G' = G
  | some r => n = sign32 (RS.int r).1 ∧ e = (RS.int r).2.e ∧ G' = ru G i (RS.int r).2

set_option maxHeartbeats 8000000 in
set_option maxRecDepth 100000 in
theorem outside_ {o : Nat → Option Nat} {B g N br bb mb : Nat} {s : BS} {G : Rs} {e : Int} {mc : Value} {P : Nat → Nat × Nat} (i : Nat) (w : World) (h : Ln o B g s G N e br bb mb mc P w) (hi : i < 60001) :
    Calls Tryz.prog 96 #[.pointer (some ⟨g, 0, none⟩), .int .i64 (i : Int)] w fun r w' => ∃ n e2 G', r = .returned (.tuple #[.int .i64 n, .int .i64 e2]) ∧ Ln o B g s G' N e br bb mb mc P w' ∧ Keeps (Ft o) w w' ∧ OutR G i n e2 G' := by
  have hc1 : w.cell? ⟨g, 1, none⟩ = some (.map (some mb)) := h.blk.cell 1
  have HLK := Lib.hid (h.map.look int_ks Tryz.underlying105 (zero_ir w) hi)
  have HH := Lib.hid h
  clear h
  cases hG : G i with
  | none =>
    have hlk := (HLK.out.2 (by rw [hG]; rfl)).2
    unfold ikv at hlk
    have HGI := Lib.hid hG
    clear hG HLK
    go_enter Tryz.func96, Tryz.ntmps96
    go_wp2
    go_ret2
    exact ⟨0, 11, G, rfl, HH.out.keeps ((Keeps.refl (fun _ => False) w).alloc _) (fun _ _ => id), ((Keeps.refl (fun _ => False) w).alloc _).none_, by unfold OutR; rw [HGI.out]; exact ⟨rfl, rfl, rfl⟩⟩
  | some r =>
    have hlk := (HLK.out.1 (rd (P i).2) (by rw [hG]; rfl)).2
    unfold ikv rd at hlk
    obtain ⟨_, hrd, hall⟩ := HH.out.rds i r hG
    obtain ⟨g', hg'⟩ : ∃ g', (P i).2 = g' := ⟨_, rfl⟩
    rw [hg'] at hlk
    have hk1 := (Keeps.refl (fun _ => False) w).alloc (.cells #[.pointer (some ⟨g', 0, none⟩)] 110)
    have HSG := Lib.hid (Ir.signed (P i).2 r (P i).1 _ (hrd.keeps hk1 fun _ _ => id))
    have HBX := Lib.hid (Blk.new w 110 #[.pointer (some ⟨g', 0, none⟩)])
    have HGL := Lib.hid hrd.lt
    have HOF : Hid (Ft o (P i).2) := by show Ft o _; rw [Ft, hall _ (rd_le hrd) (Nat.le_refl _)]; simp
    have HK1 := Lib.hid hk1
    unfold Ir.rd at HSG
    rw [hg'] at HSG
    have HGE := Lib.hid hg'
    have HGI := Lib.hid hG
    obtain ⟨n, hn⟩ : ∃ n, sign32 (RS.int r).1 = n := ⟨_, rfl⟩
    rw [hn] at HSG
    have HNN := Lib.hid hn
    clear hG HLK hg' hrd hall hk1 hn
    go_enter Tryz.func96, Tryz.ntmps96
    go_wp2_with fail
    refine HSG.out.mono ?_
    rintro r2 w1 ⟨rfl, hr1, hk1⟩
    have hx0 : w1.cell? ⟨w.heap.size, 0, none⟩ = some (.pointer (some ⟨g', 0, none⟩)) := (HBX.out.keeps hk1 (fun e => by have h1 := HGL.out; have h2 := HGE.out; omega)).cell 0
    have HER := Lib.hid (Wr.err g' (RS.int r).2 (P i).1 w1 hr1)
    have HR1 := Lib.hid hr1
    have HK2 := Lib.hid hk1
    clear hr1 hk1 HSG
    go_wp2_with fail
    refine HER.out.mono ?_
    rintro r3 w2 ⟨rfl, rfl⟩
    go_wp2
    go_ret2
    have hl := HH.out.keeps HK1.out (fun _ _ => id)
    have hl2 := hl.rd' HGI.out (r' := (RS.int r).2) (by rw [HGE.out]; exact HR1.out) (by rw [HGE.out]; exact HK2.out)
    refine ⟨n, _, _, rfl, hl2, HK1.out.none_.trans (HK2.out.mono fun k _ e => by rw [e, ← HGE.out]; exact HOF.out), ?_⟩
    unfold OutR
    rw [HGI.out]
    exact ⟨HNN.out.symm, rfl, rfl⟩

theorem take_lt (s : BS) {b : Nat} (hb : b ≤ 31) : (s.take b).1 < 2147483648 := by
  unfold BS.take
  split
  · show 0 < 2147483648
    decide
  · rename_i h
    have h1 := Bp.num_lt (l := Bp.piece s.bits s.k b) (s := b) (by rw [Bp.piece_len (by rw [s.len]; omega)]; omega) (Bp.piece_bit (Bp.ofB_bit _) _ _)
    have h2 : (2 : Nat) ^ b ≤ 2 ^ 31 := Nat.pow_le_pow_right (by omega) hb
    show Bp.num (Bp.piece s.bits s.k b) < _
    omega
theorem fine_L {L : List G} (h : newE L = 0) : Fine (wordsOf (nats' L)) := by
  obtain ⟨hlen, herr, hpos⟩ := newE_zero h
  intro t ht
  have h1 := (words_spec (nats' L) (right_of herr).sizes hpos).1 t ht
  have h2 : 2 ^ t.2.1 ≤ 2 ^ 20 := Nat.pow_le_pow_right (by omega) h1.1
  exact ⟨by omega, h1.1⟩
/-- What the next number by a way is, what is wrong with it, what is behind it. -/
def NextR (d : D) (s : BS) (G : Rs) (n e : Int) (s' : BS) (G' : Rs) : Prop :=
  (chkI d ≠ 0 ∧ n = 0 ∧ e = chkI d ∧ s' = s ∧ G' = G) ∨
  (chkI d = 0 ∧ d.K = 1 ∧ s' = s ∧ OutR G d.B.toNat n e G') ∨
  (chkI d = 0 ∧ d.K = 3 ∧ G' = G ∧ ∃ x, TakeAns (wordsOf (nats' d.L)) s x s' ∧ ((s'.ended = true ∧ n = 0 ∧ e = 3) ∨ (s'.ended = false ∧ n = x ∧ e = 0))) ∨
  (chkI d = 0 ∧ d.K = 6 ∧ G' = G ∧ s' = (s.take d.bi.toNat).2 ∧ ((s'.ended = true ∧ n = 0 ∧ e = 3) ∨ (s'.ended = false ∧ n = d.le + ((s.take d.bi.toNat).1 : Int) ∧ e = 0)))

set_option maxHeartbeats 8000000 in
set_option maxRecDepth 100000 in
theorem next_ {o : Nat → Option Nat} {B g N br bb mb : Nat} {s : BS} {G : Rs} {e : Int} {mc : Value} {P : Nat → Nat × Nat} (A : Option Addr) (n c : Nat) (d : D) (w : World) (ht : Tab B w) (h : Ln o B g s G N e br bb mb mc P w) (hN : N ≤ 1000)
    (hL : Ents w A n d.L) (hf : ∀ x ∈ d.L, Fits x) (hE : 0 < n → ∀ b x, A = some ⟨b, x, none⟩ → o b = none) :
    Calls Tryz.prog 76 #[.pointer (some ⟨g, 0, none⟩), .agg (dv A n c d)] w fun r w' => ∃ o' mc' n' e' s' G', r = .returned (.tuple #[.int .i64 n', .int .i64 e']) ∧ Ln o' B g s' G' (N + 1) e br bb mb mc' P w' ∧ Step (Ft o) (Ft o') w w' ∧ NextR d s G n' e' s' G' := by
  obtain ⟨W, hW⟩ : ∃ W, W = w.alloc (.cells (dv A n c d) 43) := ⟨_, rfl⟩
  have hk1 : Keeps (fun _ => False) w W.drew := by
    rw [hW]
    exact ((Keeps.refl _ _).alloc _).drewN 1
  obtain ⟨q, hqe⟩ : ∃ q, q = w.heap.size := ⟨_, rfl⟩
  have HBX : Hid (Blk W q 43 (dv A n c d)) := by
    show Blk _ _ _ _
    rw [hW, hqe]
    exact Blk.new w 43 (dv A n c d)
  have hgB := (h.lt g 0 h.og)
  have hB : B ≤ w.heap.size := by omega
  have hl := h.keeps hk1 fun _ _ => id
  have HCO := Lib.hid (ints_ B g 2 107 #[.pointer (some ⟨br, 0, none⟩), .map (some mb), mc, .int .i64 e] (fun k => o k = some 3) N mc A n c d W.drew (ht.more hB hk1) (Nat.le_trans hB hk1.size) hl.blk rfl (by rw [h.og]; decide) hgB.1 hl.kept hN (hL.more hk1) hf (fun h0 b x e => ⟨fun e' => (by have := hE h0 b x e; rw [e', h.og] at this; cases this), fun e' => (by have := hE h0 b x e; rw [e'] at this; cases this)⟩))
  have HK1 := Lib.hid hk1
  have HH := Lib.hid hl
  have HQF : Hid (∀ k l, o k = some l → k ≠ q) := by
    intro k l hk e
    have := (h.lt k l hk).2
    omega
  have HBW : Hid (B ≤ W.drew.heap.size) := Nat.le_trans hB hk1.size
  obtain ⟨ck, hck⟩ : ∃ ck, chkI d = ck := ⟨_, rfl⟩
  unfold CodedD at HCO
  rw [hck] at HCO
  have HCK := Lib.hid hck
  clear hck hk1 h hl hL hf hE ht hgB hB
  obtain ⟨K, Bl, L, le, bi⟩ := d
  unfold dv at HCO HBX hW ⊢
  simp only at HCO HBX hW HCK ⊢
  have x0 := HBX.out.cell 0
  have x1 := HBX.out.cell 1
  have x2 := HBX.out.cell 2
  have x3 := HBX.out.cell 3
  have x4 := HBX.out.cell 4
  simp only [List.getElem?_toArray, List.getElem?_cons_zero, List.getElem?_cons_succ] at x0 x1 x2 x3 x4
  go_enter Tryz.func76, Tryz.ntmps76
  go_upto_region 1 with fail
  rw [← hqe, ← hW]
  clear hqe hW
  go_region_held3 (fun w' => w'.cell? ⟨q, 0, none⟩ = some (.int .u8 K) ∧ w'.cell? ⟨q, 1, none⟩ = some (.int .i64 Bl) ∧ w'.cell? ⟨q, 2, none⟩ = some (.slice A n c) ∧ w'.cell? ⟨q, 3, none⟩ = some (.int .i64 le) ∧ w'.cell? ⟨q, 4, none⟩ = some (.int .i64 bi)) (go_keep)
    ((have H := HCO; go_at_call 36; refine H.out.mono ?_; rintro r w1 ⟨pp, mc', Fc', rfl, h1, h2, h3, h4, h5⟩; have H1 := Lib.hid h1; have H2 := Lib.hid h2; have H3 := Lib.hid h3; have H4 := Lib.hid h4; have H5 := Lib.hid h5; have HX1 := Lib.hid (Blk.keeps (w := W.drew) HBX.out h4.keeps (fun e => e.elim (fun e => HQF.out g 0 HH.out.og e.symm) (fun e => HQF.out q 3 e rfl))); have y0 := HX1.out.cell 0; have y1 := HX1.out.cell 1; have y2 := HX1.out.cell 2; have y3 := HX1.out.cell 3; have y4 := HX1.out.cell 4; simp only [List.getElem?_toArray, List.getElem?_cons_zero, List.getElem?_cons_succ] at y0 y1 y2 y3 y4; clear h1 h2 h3 h4 h5 HCO))
  obtain ⟨o1, hq1, hs1, hf1⟩ := HH.out.kept' HBW.out (by exact H1.out) H2.out H3.out H4.out
  have HQ1 := Lib.hid hq1
  have HS1 := Lib.hid (Step.pre HK1.out hs1)
  have HF1 := Lib.hid hf1
  clear hq1 hs1 hf1
  by_cases h0 : ck = 0
  · subst h0
    rcases chkI_in HCK.out with ⟨hK, hb1, hb2⟩ | ⟨hK, hw⟩ | ⟨hK, hle, hbi0, hbi1⟩
    · simp only at hK hb1 hb2
      subst hK
      obtain ⟨i, rfl⟩ := Int.eq_ofNat_of_zero_le (show 0 ≤ Bl by omega)
      have HOU := Lib.hid (outside_ i w1 HQ1.out (by omega))
      go_wp2_with fail
      refine HOU.out.mono ?_
      rintro r w2 ⟨n2, e2, G2, rfl, h2, k2, hr2⟩
      have HR := Lib.hid hr2
      have HQ2 := Lib.hid h2
      have HK2 := Lib.hid k2
      clear h2 k2 hr2 HOU
      go_wp2
      go_ret2
      exact ⟨o1, mc', n2, e2, s, G2, rfl, HQ2.out, HS1.out.trans ⟨HK2.out, fun _ => .inl⟩, .inr (.inl ⟨HCK.out, rfl, rfl, HR.out⟩)⟩
    · simp only at hK hw
      subst hK
      obtain ⟨pc, rfl, hcd⟩ := H5.out rfl rfl
      have HTK := Lib.hid (take_ 0 pc (wordsOf (nats' L)) bb br s w1 hcd.out (fine_L hw) HQ1.out.row)
      have c0 := HQ1.out.blk.cell 0
      simp only [List.getElem?_toArray, List.getElem?_cons_zero, List.getElem?_cons_succ] at c0
      go_wp2_with fail
      refine HTK.out.mono ?_
      rintro r w2 ⟨x, s2, rfl, ha, hr2, hc2, k2⟩
      have HQ2 := Lib.hid (HQ1.out.row' hr2 k2)
      have HA := Lib.hid ha
      have HS2 := Lib.hid (HS1.out.trans ⟨k2.mono fun k _ e => by rw [e]; exact (by rw [Ft, HQ1.out.orow br (br_le HQ1.out.row) (Nat.le_refl _)]; simp), fun _ => .inl⟩)
      have d0 := HQ2.out.blk.cell 0
      simp only [List.getElem?_toArray, List.getElem?_cons_zero, List.getElem?_cons_succ] at d0
      obtain ⟨en, hen⟩ : ∃ b, s2.ended = b := ⟨_, rfl⟩
      have HEN := Lib.hid (ended_q br s2 en bb w2 hr2 hen)
      have HEE := Lib.hid hen
      clear ha hr2 hc2 k2 HTK hen c0
      go_wp2_with fail
      refine HEN.out.mono ?_
      rintro r w3 ⟨rfl, rfl⟩
      clear HEN
      cases en with
      | true =>
        go_wp2
        go_ret2
        exact ⟨o1, mc', 0, 3, s2, G, rfl, HQ2.out, HS2.out, .inr (.inr (.inl ⟨HCK.out, rfl, rfl, x, HA.out, .inl ⟨HEE.out, rfl, rfl⟩⟩))⟩
      | false =>
        go_wp2
        go_ret2
        exact ⟨o1, mc', x, 0, s2, G, rfl, HQ2.out, HS2.out, .inr (.inr (.inl ⟨HCK.out, rfl, rfl, x, HA.out, .inr ⟨HEE.out, rfl, rfl⟩⟩))⟩
    · simp only at hK hle hbi0 hbi1
      subst hK
      obtain ⟨bn, rfl⟩ := Int.eq_ofNat_of_zero_le hbi0
      have c0 := HQ1.out.blk.cell 0
      simp only [List.getElem?_toArray, List.getElem?_cons_zero, List.getElem?_cons_succ] at c0
      obtain ⟨V, hV⟩ : ∃ V, (((s.take bn).1 : Nat) : Int) = V := ⟨_, rfl⟩
      obtain ⟨s2, hs2⟩ : ∃ s2, (s.take bn).2 = s2 := ⟨_, rfl⟩
      have hVr : 0 ≤ V ∧ V < 2147483648 := by
        have := take_lt s (b := bn) (by omega)
        omega
      have HTK := Lib.hid (take_q br s s2 bb (bn : Int) V bn w1.drew (HQ1.out.row.drewN 1) (by unfold Bf.sz; omega) hV hs2)
      have HV := Lib.hid hV
      have HS2E := Lib.hid hs2
      have hv1 : IntKind.i64.wrap V = V := IntWalk.i64_in _ (by omega)
      have hv2 : IntKind.i64.wrap (le + V) = le + V := IntWalk.i64_in _ (by omega)
      clear hV hs2 hVr
      go_upto_region 11 with fail
      go_region_held3 (fun w' => w'.cell? ⟨q, 3, none⟩ = some (.int .i64 le) ∧ w'.cell? ⟨q, 4, none⟩ = some (.int .i64 (bn : Int)) ∧ w'.cell? ⟨g, 0, none⟩ = some (.pointer (some ⟨br, 0, none⟩))) (go_keep)
        ((have H := HTK; go_at_call 98; refine H.out.mono ?_; rintro r w2 ⟨rfl, hr2, k2'⟩; have k2 : Keeps (· = br) w1 w2 := k2'.of_drew; have hx2 := Blk.keeps (w := w1) HX1.out k2 (fun e => HQF.out br 1 (HH.out.orow br (br_le HH.out.row) (Nat.le_refl _)) e.symm); have HQ2 := Lib.hid (HQ1.out.row' hr2 k2); have z3 := hx2.cell 3; have z4 := hx2.cell 4; simp only [List.getElem?_toArray, List.getElem?_cons_zero, List.getElem?_cons_succ] at z3 z4; have d0 := HQ2.out.blk.cell 0; simp only [List.getElem?_toArray, List.getElem?_cons_zero, List.getElem?_cons_succ] at d0; (have HS2 := Lib.hid (HS1.out.trans ⟨k2.mono fun k _ e => by rw [e]; exact (by rw [Ft, HQ1.out.orow br (br_le HQ1.out.row) (Nat.le_refl _)]; simp), fun _ => .inl⟩)); have HR2 := Lib.hid hr2; clear hr2 k2 k2' hx2 HTK))
      obtain ⟨en, hen⟩ : ∃ b, s2.ended = b := ⟨_, rfl⟩
      have HEN := Lib.hid (ended_q br s2 en bb w2 HR2.out hen)
      have HEE := Lib.hid hen
      clear hen
      go_wp2_with fail
      refine HEN.out.mono ?_
      rintro r w3 ⟨rfl, rfl⟩
      clear HEN
      have HD : Hid ((⟨6, Bl, L, le, (bn : Int)⟩ : D).bi.toNat = bn) := by show ((bn : Int)).toNat = bn; exact Int.toNat_natCast bn
      cases en with
      | true =>
        go_wp2
        go_ret2
        exact ⟨o1, mc', 0, 3, s2, G, rfl, HQ2.out, HS2.out, .inr (.inr (.inr ⟨HCK.out, rfl, rfl, by rw [HD.out]; exact HS2E.out.symm, .inl ⟨HEE.out, rfl, rfl⟩⟩))⟩
      | false =>
        go_wp2
        go_ret2
        exact ⟨o1, mc', le + V, 0, s2, G, rfl, HQ2.out, HS2.out, .inr (.inr (.inr ⟨HCK.out, rfl, rfl, by rw [HD.out]; exact HS2E.out.symm, .inr ⟨HEE.out, by rw [HD.out, HV.out], rfl⟩⟩))⟩
  · have hne : (ck != 0) = true := by simpa using h0
    go_wp2
    go_ret2
    exact ⟨o1, mc', 0, ck, s, G, rfl, HQ1.out, HS1.out, .inl ⟨by rw [HCK.out]; exact h0, rfl, HCK.out.symm, rfl, rfl⟩⟩
end Go.Proofs.YtgaofnmgdefdcaaGreatDoor.Le
