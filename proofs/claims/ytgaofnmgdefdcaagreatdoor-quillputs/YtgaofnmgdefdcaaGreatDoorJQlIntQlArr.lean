/- quill.Int: what it answers, what it puts: any way, any number. The condition: strconv's table of tens reads as its text lays it. -/
/- quill.Array and stopped: what they answer, what they put: any way, any bytes. The condition: strconv's table of tens reads as its text lays it. -/
import Derived.Test.YtgaofnmgdefdcaaGreatDoorJQlWayHufUQ
import Derived.Test.YtgaofnmgdefdcaaGreatDoorJQlFindQlInto
import Derived.Test.YtgaofnmgdefdcaaGreatDoorJQlStpQlSrt
import Derived.Test.YtgaofnmgdefdcaaGreatDoorJItfWrDsPl
import Derived.Test.YtgaofnmgdefdcaaGreatDoorJDsAnyDsBack
import Derived.Deep.RegionHeld3
import Derived.Test.YtgaofnmgdefdcaaGreatDoorJWireTakeAnyApp
import Derived.Test.YtgaofnmgdefdcaaGreatDoorJDsTkPDsPutA

namespace Go.Proofs.YtgaofnmgdefdcaaGreatDoor.Qu
open Go.RowKit Go.Proofs.YtgaofnmgdefdcaaGreatDoor.Ww Go.Proofs.YtgaofnmgdefdcaaGreatDoor.Gen Go.Proofs.YtgaofnmgdefdcaaGreatDoor.Mp Go.Proofs.YtgaofnmgdefdcaaGreatDoor.Cm Go.Proofs.YtgaofnmgdefdcaaGreatDoor.Hr Go.Proofs.YtgaofnmgdefdcaaGreatDoor.Hn Go.Proofs.YtgaofnmgdefdcaaGreatDoor.Hk Go.Proofs.YtgaofnmgdefdcaaGreatDoor.Ln Go.Proofs.YtgaofnmgdefdcaaGreatDoor.Ds Go.Proofs.YtgaofnmgdefdcaaGreatDoor.Ky Go.Proofs.YtgaofnmgdefdcaaGreatDoor.It Go.Proofs.YtgaofnmgdefdcaaGreatDoor.Bp Go.Proofs.YtgaofnmgdefdcaaGreatDoor.Qh Go.Proofs.YtgaofnmgdefdcaaGreatDoor.Qs Go.Proofs.YtgaofnmgdefdcaaGreatDoor.Qf Go.Proofs.YtgaofnmgdefdcaaGreatDoor.Qc Go.Proofs.YtgaofnmgdefdcaaGreatDoor.Qi

/-- A Quill, plain: its row of bits, its blocks' bytes. -/
abbrev St := List Nat × (Nat → Option (List Int))
def cont (G : Gs) : Nat → Option (List Int) := fun i => (G i).map (·.2.2)
def pc (f : Nat → Option (List Int)) (i : Nat) (ys : List Int) : Nat → Option (List Int) := fun j => if j = i then some ys else f j
def hadP (f : Nat → Option (List Int)) (i : Nat) : List Int := (f i).getD []
theorem cont_pu (G : Gs) (i : Nat) (e : W1) : cont (pu G i e) = pc (cont G) i e.2.2 := by
  funext j
  unfold cont pu pc
  split <;> rfl
theorem had_cont (G : Gs) (i : Nat) : had G i = hadP (cont G) i := rfl
/-- Bits that a number of words has. -/
def putW (L : List G) (x : Int) (s : St) : Int × St := match Hu.found (wordsOf (nats' L)) x with
  | none => (11, s)
  | some p => (0, (s.1 ++ tb p.2 p.1, s.2))
def putF (le bi x : Int) (s : St) : Int × St := if x - le < 0 ∨ 2 ^ bi.toNat ≤ x - le then (2, s) else (0, (s.1 ++ tb (x - le).toNat bi.toNat, s.2))
/-- A number, put by a way that may be. -/
def putN (d : D) (x : Int) (s : St) : Int × St :=
  if x < -2147483647 ∨ 2147483647 < x then (2, s) else if d.K = 1 then (0, (s.1, pc s.2 d.B.toNat (hadP s.2 d.B.toNat ++ encInt (sg x)))) else if d.K = 3 then putW d.L x s else putF d.le d.bi x s
def pInt (d : D) (x : Int) (s : St) : Int × St := if chkI d = 0 then putN d x s else (chkI d, s)
/-- What a deed answers, and the Quill behind it. -/
def Did (B g N : Nat) (F : Nat → Prop) (p : Int × St) (w w' : World) (r : Ending) : Prop :=
  ∃ F' G', r = .returned (.int .i64 p.1) ∧ Ql F' B g p.2.1 G' N w' ∧ cont G' = p.2.2 ∧ Step F F' w w'

theorem word_fits {L : List G} (h : newE L = 0) {x : Int} {p : Nat × Nat} (hf : Hu.found (wordsOf (nats' L)) x = some p) : p.1 ≤ 20 ∧ p.2 < 4294967296 := by
  obtain ⟨hlen, herr, hpos⟩ := newE_zero h
  have h1 := (words_spec (nats' L) (right_of herr).sizes hpos).1 _ (Hu.found_mem hf)
  simp only at h1
  have h2 : 2 ^ p.1 ≤ 2 ^ 20 := Nat.pow_le_pow_right (by omega) h1.1
  exact ⟨h1.1, by omega⟩

set_option maxHeartbeats 16000000 in
set_option maxRecDepth 100000 in
theorem int_ (B g : Nat) (F : Nat → Prop) (l : List Nat) (G : Gs) (N : Nat) (A : Option Addr) (n c : Nat) (d : D) (x : Int) (w : World)
    (ht : Tab B w) (hB : B ≤ w.heap.size) (hq : Ql F B g l G N w) (hN : N ≤ 1000) (hl : l.length + 32 ≤ 8000000) (hG : ∀ i, (had G i).length + 9 ≤ 1000000)
    (hL : Ents w A n d.L) (hf : ∀ y ∈ d.L, Fits y) (hE : 0 < n → ∀ b o, A = some ⟨b, o, none⟩ → ¬ F b) (hx : (Lit.int .i64 x).wf = true) :
    Calls Tryz.prog 15 #[.pointer (some ⟨g, 0, none⟩), .agg (dv A n c d), .int .i64 x] w fun r w' => Did B g (N + 1) F (pInt d x (l, cont G)) w w' r := by
  obtain ⟨q, hqe⟩ : ∃ q, q = w.heap.size := ⟨_, rfl⟩
  obtain ⟨W, hW⟩ : ∃ W, W = w.alloc (.cells (dv A n c d) 43) := ⟨_, rfl⟩
  have hk1 : Keeps (fun _ => False) w W.drew := by rw [hW]; exact ((Keeps.refl _ _).alloc _).drewN 1
  have HBX : Hid (Blk W q 43 (dv A n c d)) := by show Blk _ _ _ _; rw [hW, hqe]; exact Blk.new _ _ _
  obtain ⟨Fb, Fc, v, mb, mc, h⟩ := hq.more hk1
  obtain ⟨last, o, hb, hr⟩ := row_cells h.row
  have hqF : ∀ k, F k → k ≠ q := fun k hk e => by
    have := hq.lt k hk
    omega
  have HCO := Lib.hid (ints_ B g 4 77 #[v, .int .u64 last, .int .i64 o, mb, mc] Fc N mc A n c d W.drew (ht.more hB hk1) (Nat.le_trans hB hk1.size) hb rfl h.ing.2.2 (h.low g h.ing.1) h.kept hN (hL.more hk1) hf (fun h0 b o e => ⟨fun e' => hE h0 b o e (e' ▸ h.ing.1), fun e' => hE h0 b o e ((h.all b).2 (.inr (.inr e')))⟩))
  have HK1 := Lib.hid hk1
  have HH := Lib.hid h
  have HR := Lib.hid hr
  have HQF := Lib.hid hqF
  have HBW : Hid (B ≤ W.drew.heap.size) := Nat.le_trans hB hk1.size
  have HGL := Lib.hid hG
  have HLL := Lib.hid hl
  have HNE := Lib.hid (h.ing)
  obtain ⟨ck, hck⟩ : ∃ ck, chkI d = ck := ⟨_, rfl⟩
  obtain ⟨p, hp⟩ : ∃ p, pInt d x (l, cont G) = p := ⟨_, rfl⟩
  rw [hp]
  have HP : Hid (p = if ck = 0 then putN d x (l, cont G) else (ck, (l, cont G))) := by show p = _; rw [← hp, ← hck]; rfl
  unfold CodedD at HCO
  rw [hck] at HCO
  have HCK := Lib.hid hck
  clear hck hp hk1 h hb hr hqF hG hl hq hL hf hE ht
  obtain ⟨K, Bl, L, le, bi⟩ := d
  unfold dv at HCO HBX hW ⊢
  simp only at HCO HBX hW HCK HP ⊢
  have x0 := HBX.out.cell 0
  have x1 := HBX.out.cell 1
  have x2 := HBX.out.cell 2
  have x3 := HBX.out.cell 3
  have x4 := HBX.out.cell 4
  simp only [List.getElem?_toArray, List.getElem?_cons_zero, List.getElem?_cons_succ] at x0 x1 x2 x3 x4
  go_enter Tryz.func15, Tryz.ntmps15
  go_upto_region 3 with fail
  rw [← hqe, ← hW]
  clear hqe hW
  go_region_held3 (fun w' => w'.cell? ⟨q, 0, none⟩ = some (.int .u8 K) ∧ w'.cell? ⟨q, 1, none⟩ = some (.int .i64 Bl) ∧ w'.cell? ⟨q, 2, none⟩ = some (.slice A n c) ∧ w'.cell? ⟨q, 3, none⟩ = some (.int .i64 le) ∧ w'.cell? ⟨q, 4, none⟩ = some (.int .i64 bi)) (go_keep)
    ((have H := HCO; go_at_call 36; refine H.out.mono ?_; rintro r w1 ⟨pp, mc', Fc', rfl, h1, h2, h3, h4, h5⟩; have H1 := Lib.hid h1; have H2 := Lib.hid h2; have H3 := Lib.hid h3; have H4 := Lib.hid h4; have H5 := Lib.hid h5; have HX1 := Lib.hid (Blk.keeps (w := W.drew) HBX.out h4.keeps (fun e => e.elim (fun e => HQF.out g HNE.out.1 e.symm) (fun e => HQF.out q ((HH.out.all q).2 (.inr (.inr e))) rfl))); have y0 := HX1.out.cell 0; have y1 := HX1.out.cell 1; have y2 := HX1.out.cell 2; have y3 := HX1.out.cell 3; have y4 := HX1.out.cell 4; simp only [List.getElem?_toArray, List.getElem?_cons_zero, List.getElem?_cons_succ] at y0 y1 y2 y3 y4; clear h1 h2 h3 h4 h5 HCO))
  obtain ⟨hq1, hs1⟩ := HH.out.kept' HBW.out HR.out (by exact H1.out) H2.out H3.out H4.out
  have HQ1 := Lib.hid hq1
  have HS1 := Lib.hid (Step.pre HK1.out hs1)
  have HB1 : Hid (B ≤ w1.heap.size) := Nat.le_trans HBW.out hs1.keeps.size
  clear hq1 hs1
  by_cases h0 : ck = 0
  · subst h0
    have HPN : Hid (p = putN ⟨K, Bl, L, le, bi⟩ x (l, cont G)) := by show p = _; rw [HP.out, if_pos rfl]
    clear HP
    by_cases hx1 : x < -2147483647
    · go_wp2
      go_ret
      have e : p = (2, (l, cont G)) := by rw [HPN.out, putN, if_pos (.inl hx1)]
      rw [e]
      exact ⟨_, G, rfl, ⟨_, _, _, _, _, HQ1.out⟩, rfl, HS1.out⟩
    by_cases hx2 : 2147483647 < x
    · go_wp2
      go_ret
      have e : p = (2, (l, cont G)) := by rw [HPN.out, putN, if_pos (.inr hx2)]
      rw [e]
      exact ⟨_, G, rfl, ⟨_, _, _, _, _, HQ1.out⟩, rfl, HS1.out⟩
    have hx3 : ¬ (x > 2147483647) := by omega
    have HPM : Hid (p = if K = 1 then (0, (l, pc (cont G) Bl.toNat (hadP (cont G) Bl.toNat ++ encInt (sg x)))) else if K = 3 then putW L x (l, cont G) else putF le bi x (l, cont G)) := by
      show p = _
      rw [HPN.out, putN, if_neg (by omega)]
    clear HPN
    rcases chkI_in HCK.out with ⟨hK, hb1, hb2⟩ | ⟨hK, hw⟩ | ⟨hK, hle, hbi0, hbi1⟩
    · simp only at hK hb1 hb2
      subst hK
      obtain ⟨i, rfl⟩ := Int.eq_ofNat_of_zero_le (show 0 ≤ Bl by omega)
      have HPK : Hid (p = (0, (l, pc (cont G) i (hadP (cont G) i ++ encInt (sg x))))) := by show p = _; rw [HPM.out, if_pos rfl]; rfl
      obtain ⟨last1, o1, hbl1, hr1⟩ := row_cells HQ1.out.row
      have HIN := Lib.hid (into_ g 77 #[v, .int .u64 last1, .int .i64 o1, mb, mc'] Fb mb G i w1 (by omega) hbl1 rfl HQ1.out.ing.2.1 HQ1.out.wms)
      have HR1 := Lib.hid hr1
      clear hbl1 hr1 HPM
      go_wp2_with fail
      refine HIN.out.mono ?_
      rintro r w2 ⟨gi, vi, mb', Fb', rfl, j1, j2, j3, j4⟩
      have J := Lib.hid (HQ1.out.wms' HB1.out HR1.out (by exact j1) j2 j3 j4)
      have hwr : IsWr 0 gi vi (had G i) w2 := by
        rcases j3.2 with ⟨_, hn⟩ | ⟨b, _, hm⟩
        · have := hn i
          simp [pu] at this
        · exact (hm.wr i _ (pu_at G i _)).2.1
      have HSG := Lib.hid (Iw.signed gi 0 vi (had G i) x w2 hwr (HGL.out i))
      clear j1 j2 j3 j4 HIN hwr
      go_wp2_with fail
      refine HSG.out.mono ?_
      rintro r w3 hp
      obtain rfl := hp.1
      have HPU := Lib.hid hp
      clear hp HSG
      go_wp2
      go_ret
      obtain ⟨jq, js⟩ := J.out
      obtain ⟨F', v', hq', hs'⟩ := jq.put' (Nat.le_trans HB1.out js.keeps.size) (pu_at G i _) HPU.out
      rw [HPK.out]
      refine ⟨F', _, rfl, hq', ?_, (HS1.out.trans js).trans hs'⟩
      rw [pu_pu, cont_pu]
      rfl
    · simp only at hK hw
      subst hK
      obtain ⟨pc, rfl, hcd⟩ := H5.out rfl rfl
      have HPK : Hid (p = putW L x (l, cont G)) := by show p = _; rw [HPM.out, if_neg (by decide), if_pos rfl]
      have HCD := Lib.hid hcd
      clear hcd HPM
      cases hfo : Hu.found (wordsOf (nats' L)) x with
      | none =>
        have HRO := Lib.hid (Hu.put_no 0 pc (wordsOf (nats' L)) x (some ⟨g, 0, none⟩) w1 HCD.out.out hx hfo)
        have HPE : Hid (p = (11, (l, cont G))) := by show p = _; rw [HPK.out, putW, hfo]
        clear hfo
        go_wp2_with fail
        refine HRO.out.mono ?_
        rintro r w2 ⟨rfl, hk2⟩
        have HK2 := Lib.hid hk2
        clear hk2 HRO
        go_wp2
        go_ret
        rw [HPE.out]
        exact ⟨_, G, rfl, ⟨_, _, _, _, _, HQ1.out.keeps HK2.out fun _ _ => id⟩, rfl, HS1.out.more HK2.out⟩
      | some zv =>
        obtain ⟨z, vv⟩ := zv
        obtain ⟨hz, hv⟩ := word_fits hw hfo
        simp only at hz hv
        have HRO := Lib.hid (Bq.put_some 0 pc (wordsOf (nats' L)) x z vv 0 g v l w1 HCD.out.out hx hfo (by omega) hv HQ1.out.row HLL.out)
        have HPE : Hid (p = (0, (l ++ tb vv z, cont G))) := by show p = _; rw [HPK.out, putW, hfo]
        clear hfo
        go_wp2_with fail
        refine HRO.out.mono ?_
        rintro r w2 ⟨rfl, v', hr2, hm2⟩
        have HR2 := Lib.hid (HQ1.out.row' HB1.out hr2 hm2)
        clear hr2 hm2 HRO
        go_wp2
        go_ret
        obtain ⟨F', hq', hs'⟩ := HR2.out
        rw [HPE.out]
        exact ⟨F', G, rfl, hq', rfl, HS1.out.trans hs'⟩
    · simp only at hK hle hbi0 hbi1
      subst hK
      have HPK : Hid (p = putF le bi x (l, cont G)) := by show p = _; rw [HPM.out, if_neg (by decide), if_neg (by decide)]
      clear HPM
      obtain ⟨b, rfl⟩ := Int.eq_ofNat_of_zero_le hbi0
      obtain ⟨m, hm⟩ : ∃ m, x - le = m := ⟨_, rfl⟩
      have hms : IntKind.i64.wrap (x - le) = m := by rw [hm]; exact IntWalk.i64_in _ (by omega)
      have hpw : (2 : Int) ^ b ≤ 2147483648 := by
        have h1 := Nat.pow_le_pow_right (n := 2) (by decide) (show b ≤ 31 by omega)
        have h2 : (2 : Int) ^ b = ((2 ^ b : Nat) : Int) := by simp
        omega
      have HMR : Hid (-4294967294 ≤ m ∧ m ≤ 4294967294) := by show _ ∧ _; omega
      obtain ⟨Z, hZ⟩ : ∃ Z, (2 : Int) ^ b = Z := ⟨_, rfl⟩
      rw [hZ] at hpw
      have hZ1 : 1 ≤ Z := by
        rw [← hZ]
        have h2 : (2 : Int) ^ b = ((2 ^ b : Nat) : Int) := by simp
        have := Nat.two_pow_pos b
        omega
      have hsh : IntKind.i64.wrap (2 ^ b) = Z := by rw [hZ]; exact IntWalk.i64_in _ (by omega)
      have HPE : Hid (p = if m < 0 ∨ Z ≤ m then (2, (l, cont G)) else (0, (l ++ tb m.toNat b, cont G))) := by
        show p = _
        rw [HPK.out, putF, hm, show ((b : Int)).toNat = b from Int.toNat_natCast b, hZ]
      have HZ := Lib.hid hZ
      have HM := Lib.hid hm
      have hb0 : (0 : Int) ≤ (b : Int) := by omega
      have hbn : ((b : Int)).toNat = b := Int.toNat_natCast b
      clear hZ hm HPK
      by_cases hm0 : m < 0
      · go_wp2
        go_ret
        rw [HPE.out, if_pos (.inl hm0)]
        exact ⟨_, G, rfl, ⟨_, _, _, _, _, HQ1.out⟩, rfl, HS1.out⟩
      by_cases hmZ : Z ≤ m
      · go_wp2
        go_ret
        rw [HPE.out, if_pos (.inr hmZ)]
        exact ⟨_, G, rfl, ⟨_, _, _, _, _, HQ1.out⟩, rfl, HS1.out⟩
      · obtain ⟨mn, rfl⟩ := Int.eq_ofNat_of_zero_le (show 0 ≤ m by omega)
        have hwm : IntKind.u32.wrap (mn : Int) = (mn : Int) := IntWalk.u32_in _ (by omega)
        have hlt : (mn : Int) < Z := by omega
        have HRO := Lib.hid (Bq.put g 0 v l mn (b : Int) w1.drew (HQ1.out.row.keeps ((Keeps.refl (fun _ => False) w1).drewN 1) fun _ _ => id) HLL.out (by omega))
        have HSZ : Hid (Bf.sz (b : Int) = b) := by show Bf.sz (b : Int) = b; unfold Bf.sz; omega
        go_upto_region 18 with fail
        go_region_held3 (fun w' => w'.cell? ⟨q, 4, none⟩ = some (.int .i64 b)) (go_keep)
          ((have H := HRO; go_at_call 39; refine H.out.mono ?_; rintro r w2 ⟨rfl, v', hr2, hm2⟩; have HR2 := Lib.hid ((HQ1.out.keeps ((Keeps.refl (fun _ => False) w1).drewN 1) fun _ _ => id).row' HB1.out hr2 hm2); have z4 : w2.cell? ⟨q, 4, none⟩ = some (.int .i64 b) := (Blk.keeps (w := w1.drew) HX1.out hm2.keeps (fun e => HQF.out q ((HH.out.all q).2 (.inl e)) rfl)).cell 4; clear hr2 hm2 HRO))
        go_wp2
        go_ret
        obtain ⟨F', hq', hs'⟩ := HR2.out
        rw [HPE.out, if_neg (by omega)]
        refine ⟨F', G, rfl, ?_, rfl, HS1.out.trans hs'.of_drew⟩
        rw [HSZ.out] at hq'
        exact hq'
  · have hne : (ck != 0) = true := by simpa using h0
    go_wp2
    go_ret
    have e : p = (ck, (l, cont G)) := by rw [HP.out, if_neg h0]
    rw [e]
    exact ⟨_, G, rfl, ⟨_, _, _, _, _, HQ1.out⟩, rfl, HS1.out⟩
end Go.Proofs.YtgaofnmgdefdcaaGreatDoor.Qu

namespace Go.Proofs.YtgaofnmgdefdcaaGreatDoor.Qu
open Go.RowKit Go.Proofs.YtgaofnmgdefdcaaGreatDoor.Ww Go.Proofs.YtgaofnmgdefdcaaGreatDoor.Gen Go.Proofs.YtgaofnmgdefdcaaGreatDoor.Mp Go.Proofs.YtgaofnmgdefdcaaGreatDoor.Cm Go.Proofs.YtgaofnmgdefdcaaGreatDoor.Hr Go.Proofs.YtgaofnmgdefdcaaGreatDoor.Hn Go.Proofs.YtgaofnmgdefdcaaGreatDoor.Hk Go.Proofs.YtgaofnmgdefdcaaGreatDoor.Ln Go.Proofs.YtgaofnmgdefdcaaGreatDoor.Ds Go.Proofs.YtgaofnmgdefdcaaGreatDoor.Ky Go.Proofs.YtgaofnmgdefdcaaGreatDoor.It Go.Proofs.YtgaofnmgdefdcaaGreatDoor.Ib Go.Proofs.YtgaofnmgdefdcaaGreatDoor.Bp Go.Proofs.YtgaofnmgdefdcaaGreatDoor.Qh Go.Proofs.YtgaofnmgdefdcaaGreatDoor.Qs Go.Proofs.YtgaofnmgdefdcaaGreatDoor.Qf Go.Proofs.YtgaofnmgdefdcaaGreatDoor.Qc Go.Proofs.YtgaofnmgdefdcaaGreatDoor.Qi

def pStop (a : E) (bs : List Int) (s : St) : Int × St := if a.S ∈ bs then (4, s) else (0, (s.1, pc s.2 a.B.toNat (hadP s.2 a.B.toNat ++ bs ++ [a.S])))
def pCnt (a : E) (bs : List Int) (s : St) : Int × St := if (pInt a.d bs.length s).1 = 0 then (0, ((pInt a.d bs.length s).2.1, pc (pInt a.d bs.length s).2.2 a.B.toNat (hadP (pInt a.d bs.length s).2.2 a.B.toNat ++ bs))) else pInt a.d bs.length s
def pArr (a : E) (bs : List Int) (s : St) : Int × St := if chkA a = 0 then (if a.K = 5 then pStop a bs s else pCnt a bs s) else (chkA a, s)

theorem hadP_pc (f : Nat → Option (List Int)) (i j : Nat) (ys : List Int) : hadP (pc f i ys) j = if j = i then ys else hadP f j := by
  unfold hadP pc
  split <;> rfl
theorem pInt_len (d : D) (x : Int) (s : St) : (pInt d x s).2.1.length ≤ s.1.length + 32 ∧ ∀ j, (hadP (pInt d x s).2.2 j).length ≤ (hadP s.2 j).length + 9 := by
  have h0 : s.1.length ≤ s.1.length + 32 ∧ ∀ j, (hadP s.2 j).length ≤ (hadP s.2 j).length + 9 := ⟨by omega, fun j => by omega⟩
  unfold pInt
  split
  · rename_i hc
    unfold putN
    split
    · exact h0
    · split
      · refine ⟨by simp, fun j => ?_⟩
        simp only [hadP_pc]
        split
        · rename_i hj
          subst hj
          have := (encInt_len (sg x)).2
          rw [List.length_append]
          omega
        · omega
      · split
        · rename_i h3
          unfold putW
          split
          · exact h0
          · rename_i p hp
            have hw : newE d.L = 0 := by simpa [chkI, h3] using hc
            have := word_fits hw hp
            refine ⟨?_, h0.2⟩
            simp only [List.length_append, tb_len]
            omega
        · unfold putF
          rename_i h1 h3
          split
          · exact h0
          · refine ⟨?_, h0.2⟩
            rcases chkI_in hc with h | h | ⟨_, _, hb⟩
            · exact absurd h.1 h1
            · exact absurd h.1 h3
            · simp only [List.length_append, tb_len]
              omega
  · exact h0

theorem lies_keeps {S : Nat → Prop} {w w1 : World} {A : Option Addr} {xs : List Int} (h : Lies w A xs) (k : Keeps S w w1) (hn : xs ≠ [] → ∀ b o, A = some ⟨b, o, none⟩ → ¬ S b) : Lies w1 A xs := by
  by_cases h0 : xs = []
  · exact .inl h0
  · exact h.keeps k (hn h0)

set_option maxHeartbeats 16000000 in
set_option maxRecDepth 100000 in
theorem stopped_ (B g : Nat) (F : Nat → Prop) (l : List Nat) (G : Gs) (N : Nat) (A : Option Addr) (n c : Nat) (a : E) (A2 : Option Addr) (m c2 : Nat) (bs : List Int) (w : World)
    (hB : B ≤ w.heap.size) (hq : Ql F B g l G N w) (hG : ∀ i, (had G i).length + m + 1 ≤ 1000000) (hb1 : 1 ≤ a.B ∧ a.B ≤ 60000) (hS : 0 ≤ a.S ∧ a.S < 256)
    (hm : bs.length = m) (h02 : A2 = none → c2 = 0) (hl : Lies w A2 bs) (hby : ∀ y ∈ bs, 0 ≤ y ∧ y < 256) (hE : bs ≠ [] → ∀ b o, A2 = some ⟨b, o, none⟩ → ¬ F b) :
    Calls Tryz.prog 33 #[.pointer (some ⟨g, 0, none⟩), .agg (av A n c a), .slice A2 m c2] w fun r w' => Did B g N F (pStop a bs (l, cont G)) w w' r := by
  obtain ⟨q, hqe⟩ : ∃ q, q = w.heap.size := ⟨_, rfl⟩
  obtain ⟨W, hW⟩ : ∃ W, W = w.alloc (.cells (av A n c a) 45) := ⟨_, rfl⟩
  have hk1 : Keeps (fun _ => False) w W := by rw [hW]; exact (Keeps.refl _ _).alloc _
  have HBX : Hid (Blk W q 45 (av A n c a)) := by show Blk _ _ _ _; rw [hW, hqe]; exact Blk.new _ _ _
  obtain ⟨Fb, Fc, v, mb, mc, h⟩ := hq.more hk1
  have hqF : ∀ k, F k → k ≠ q := fun k hk e => by
    have := hq.lt k hk
    omega
  obtain ⟨i, hi⟩ := Int.eq_ofNat_of_zero_le (show 0 ≤ a.B by omega)
  obtain ⟨last, o, hb, hr⟩ := row_cells h.row
  have HIN := Lib.hid (into_ g 77 #[v, .int .u64 last, .int .i64 o, mb, mc] Fb mb G i W (by omega) hb rfl h.ing.2.1 h.wms)
  have HK1 := Lib.hid hk1
  have HH := Lib.hid h
  have HR := Lib.hid hr
  have HQF := Lib.hid hqF
  have HBW : Hid (B ≤ W.heap.size) := Nat.le_trans hB hk1.size
  have HGL := Lib.hid hG
  have HE := Lib.hid hE
  have HLI := Lib.hid (hl.keeps hk1 fun _ _ _ => id)
  have HMM := Lib.hid hm
  have HIX := Lib.hid (fun w => Wr.index A2 m c2 bs a.S w hm)
  obtain ⟨p, hp⟩ : ∃ p, pStop a bs (l, cont G) = p := ⟨_, rfl⟩
  rw [hp]
  have HP : Hid (p = if a.S ∈ bs then (4, (l, cont G)) else (0, (l, pc (cont G) i (hadP (cont G) i ++ bs ++ [a.S])))) := by show p = _; rw [← hp, pStop, hi]; rfl
  have HQG : Hid (∀ k, F k → k < W.heap.size) := h.lt
  obtain ⟨k0, hk0, hk0m⟩ : ∃ k0, Lib.indexByte (Lib.bytesOf bs) a.S.toNat.toUInt8 = k0 ∧ (0 ≤ k0 ↔ a.S ∈ bs) := by
    refine ⟨_, Wr.index_eq a.S hS bs hby, ?_⟩
    split
    · rename_i hlt
      refine ⟨fun _ => ?_, fun _ => by omega⟩
      obtain ⟨y, hy, e⟩ := List.findIdx_lt_length.1 hlt
      rw [← beq_iff_eq.1 e]
      exact hy
    · rename_i hlt
      refine ⟨fun h => by omega, fun hy => absurd (List.findIdx_lt_length.2 ⟨_, hy, by simp⟩) hlt⟩
  rw [hk0] at HIX
  have HK0 := Lib.hid hk0m
  clear hp hk1 h hb hr hqF hG hE hl hq hm hk0 hk0m
  obtain ⟨⟨K, Bl, L, le, bi⟩, K2, B2, S2⟩ := a
  simp only at hi hb1 hS HIX HP HK0
  subst hi
  unfold av at HBX hW ⊢
  simp only at HBX hW ⊢
  have x6 := HBX.out.cell 6
  have x7 := HBX.out.cell 7
  simp only [List.getElem?_toArray, List.getElem?_cons_zero, List.getElem?_cons_succ] at x6 x7
  by_cases hin : S2 ∈ bs
  · have h0 : 0 ≤ k0 := HK0.out.2 hin
    have HPE : Hid (p = (4, (l, cont G))) := by show p = _; rw [HP.out, if_pos hin]
    clear HP HK0
    go_enter Tryz.func33, Tryz.ntmps33
    go_upto_region 1 with fail
    rw [← hqe, ← hW]
    clear hqe hW
    go_wp2_with (go_at_call 60; refine (HIX.out _ HLI.out).mono ?_; rintro r w1 ⟨rfl, rfl⟩)
    go_ret
    rw [HPE.out]
    exact ⟨F, G, rfl, ⟨_, _, _, _, _, HH.out⟩, rfl, Step.quiet HK1.out⟩
  · have h0 : ¬ 0 ≤ k0 := fun h => hin (HK0.out.1 h)
    have h0' : k0 < 0 := by omega
    have HPE : Hid (p = (0, (l, pc (cont G) i (hadP (cont G) i ++ bs ++ [S2])))) := by show p = _; rw [HP.out, if_neg hin]
    clear HP HK0
    go_enter Tryz.func33, Tryz.ntmps33
    go_upto_region 1 with fail
    rw [← hqe, ← hW]
    clear hqe hW
    go_wp2_with (go_at_call 60; refine (HIX.out _ HLI.out).mono ?_; rintro r w1 ⟨rfl, rfl⟩)
    refine HIN.out.mono ?_
    rintro r w2 ⟨gi, vi, mb', Fb', rfl, j1, j2, j3, j4⟩
    have J := Lib.hid (HH.out.wms' HBW.out HR.out (by exact j1) j2 j3 j4)
    obtain ⟨hwr, hits⟩ : IsWr 0 gi vi (had G i) w2 ∧ ∀ k, Its gi vi k → Fb' k := by
      rcases j3.2 with ⟨_, hn⟩ | ⟨b, _, hm⟩
      · have := hn i
        simp [pu] at this
      · have h1 := hm.wr i _ (pu_at G i _)
        exact ⟨h1.2.1, fun k hk => (h1.2.2 k hk).1⟩
    have hjk := J.out.2.keeps
    have HX2 := Lib.hid (HBX.out.keeps hjk fun e => HQF.out q e rfl)
    have HNI : Hid (¬ Its gi vi q) := fun e => by
      rcases J.out.2.sub q (.inr (.inl (hits q e))) with h1 | h1
      · exact HQF.out q h1 rfl
      · have := HBX.out.lt
        omega
    have HPT := Lib.hid (Ww.put gi 0 vi (had G i) bs A2 m c2 w2 HMM.out h02 hwr (lies_keeps HLI.out hjk HE.out) (by have := HGL.out i; omega))
    clear j1 j2 j3 j4 HIN hwr hits hjk
    go_wp2_with fail
    refine HPT.out.mono ?_
    rintro r w3 ⟨rfl, v1, hw1, hk3, ho3⟩
    have HBY := Lib.hid (Ww.byte gi 0 v1 (had G i ++ bs) S2 w3.drew (hw1.keeps ((Keeps.refl (fun _ => False) w3).drewN 1) fun _ _ => id) (by have := HGL.out i; have := HMM.out; rw [List.length_append]; omega))
    have HX3 := Lib.hid (HX2.out.keeps hk3 HNI.out)
    have HK3 := Lib.hid hk3
    have HO3 := Lib.hid ho3
    have HN1 : Hid (¬ Its gi v1 q) := fun e => by
      rcases e with e | e
      · exact HNI.out (.inl e)
      · rcases ho3 with h1 | ⟨b, h1, h2⟩
        · exact HNI.out (.inr (h1 ▸ e))
        · rw [h1] at e
          injection e with e
          have := HX2.out.lt
          omega
    have y7 := HX3.out.cell 7
    simp only [List.getElem?_toArray, List.getElem?_cons_zero, List.getElem?_cons_succ] at y7
    clear hw1 hk3 ho3 HPT
    go_upto_region 5 with fail
    go_region_held3 (fun w' => w'.cell? ⟨q, 7, none⟩ = some (.int .u8 S2)) (go_keep)
      ((have H := HBY; go_at_call 61; refine H.out.mono ?_; rintro r w4 hp; obtain rfl := hp.1; have z7 : w4.cell? ⟨q, 7, none⟩ = some (.int .u8 S2) := (Blk.keeps (w := w3.drew) HX3.out (by obtain ⟨_, _, _, hk, _⟩ := hp; exact hk) HN1.out).cell 7; have HPU := Lib.hid hp; clear hp HBY))
    go_wp2
    go_ret
    obtain ⟨_, v4, hw4, hk4, ho4⟩ := HPU.out
    have hpt : Puts 0 gi vi (had G i ++ bs ++ [S2]) w2 (.returned (.tuple #[])) w4 := Iw.puts_trans HK3.out HO3.out ⟨rfl, v4, hw4, hk4.of_drew, ho4⟩
    obtain ⟨jq, js⟩ := J.out
    obtain ⟨F', v', hq', hs'⟩ := jq.put' (Nat.le_trans HBW.out js.keeps.size) (pu_at G i _) hpt
    rw [HPE.out]
    refine ⟨F', _, rfl, hq', ?_, ((Step.pre HK1.out js)).trans hs'⟩
    rw [pu_pu, cont_pu]
    rfl
set_option maxHeartbeats 16000000 in
set_option maxRecDepth 100000 in
theorem array_ (B g : Nat) (F : Nat → Prop) (l : List Nat) (G : Gs) (N : Nat) (A : Option Addr) (n c : Nat) (a : E) (A2 : Option Addr) (m c2 : Nat) (bs : List Int) (w : World)
    (ht : Tab B w) (hB : B ≤ w.heap.size) (hq : Ql F B g l G N w) (hN : N ≤ 1000) (hll : l.length + 64 ≤ 8000000) (hG : ∀ i, (had G i).length + m + 20 ≤ 1000000)
    (hL : Ents w A n a.d.L) (hf : ∀ y ∈ a.d.L, Fits y) (hE : 0 < n → ∀ b o, A = some ⟨b, o, none⟩ → ¬ F b) (hS : 0 ≤ a.S ∧ a.S < 256)
    (hm : bs.length = m) (h02 : A2 = none → c2 = 0) (hl : Lies w A2 bs) (hby : ∀ y ∈ bs, 0 ≤ y ∧ y < 256) (hE2 : bs ≠ [] → ∀ b o, A2 = some ⟨b, o, none⟩ → ¬ F b) :
    Calls Tryz.prog 10 #[.pointer (some ⟨g, 0, none⟩), .agg (av A n c a), .slice A2 m c2] w fun r w' => Did B g (N + 1) F (pArr a bs (l, cont G)) w w' r := by
  obtain ⟨q, hqe⟩ : ∃ q, q = w.heap.size := ⟨_, rfl⟩
  obtain ⟨W, hW⟩ : ∃ W, W = w.alloc (.cells (av A n c a) 45) := ⟨_, rfl⟩
  have hk1 : Keeps (fun _ => False) w W.drew := by rw [hW]; exact ((Keeps.refl _ _).alloc _).drewN 1
  have HBX : Hid (Blk W q 45 (av A n c a)) := by show Blk _ _ _ _; rw [hW, hqe]; exact Blk.new _ _ _
  obtain ⟨Fb, Fc, v, mb, mc, h⟩ := hq.more hk1
  obtain ⟨last, o, hb, hr⟩ := row_cells h.row
  have hqF : ∀ k, F k → k ≠ q := fun k hk e => by
    have := hq.lt k hk
    omega
  have hB1 : B ≤ W.drew.heap.size := Nat.le_trans hB hk1.size
  have HCA := Lib.hid (arrays_ B g 4 Fc N mc A n c a W.drew (ht.more hB hk1) hB1 (hb.cell 4) hb.lt h.kept (hL.more hk1) hf)
  have HST := Lib.hid (fun W2 (k : Keeps (fun _ => False) W.drew W2) (hb1 : 1 ≤ a.B ∧ a.B ≤ 60000) => stopped_ B g F l G N A n c a A2 m c2 bs W2 (Nat.le_trans hB1 k.size) ((hq.more hk1).more k) (fun i => by have := hG i; omega) hb1 hS hm h02 ((hl.keeps hk1 fun _ _ _ => id).keeps k fun _ _ _ => id) hby hE2)
  have HIT := Lib.hid (fun W2 (k : Keeps (fun _ => False) W.drew W2) => int_ B g F l G N A n c a.d m W2 ((ht.more hB hk1).more hB1 k) (Nat.le_trans hB1 k.size) ((hq.more hk1).more k) hN (by omega) (fun i => by have := hG i; omega) ((hL.more hk1).more k) hf hE (by
    have h1 := hG 0
    have hm : IntKind.i64.min = -9223372036854775808 ∧ IntKind.i64.max = 9223372036854775807 := by decide
    simp [Lit.wf, hm.1, hm.2]
    omega))
  have HK1 := Lib.hid hk1
  have HQ := Lib.hid hq
  have HQF := Lib.hid hqF
  have HGL := Lib.hid hG
  have HE2 := Lib.hid hE2
  have HLI := Lib.hid hl
  have HMM := Lib.hid hm
  have HB1 := Lib.hid hB1
  obtain ⟨p, hp⟩ : ∃ p, pArr a bs (l, cont G) = p := ⟨_, rfl⟩
  rw [hp]
  have HP : Hid (p = if chkA a = 0 then (if a.K = 5 then pStop a bs (l, cont G) else pCnt a bs (l, cont G)) else (chkA a, (l, cont G))) := by show p = _; rw [← hp, pArr]
  obtain ⟨ca, hca⟩ : ∃ ca, chkA a = ca := ⟨_, rfl⟩
  rw [hca] at HCA HP
  have HCK := Lib.hid hca
  clear hp hk1 h hb hr hqF hG hE hl hq hm hE2 hL hf ht hca hB1
  have HAV := HST
  obtain ⟨⟨K, Bl, L, le, bi⟩, K2, B2, S2⟩ := a
  unfold av at HBX hW HCA HST ⊢
  unfold dv at HIT
  simp only at HBX hW HCA HST HIT HP hS ⊢
  have x0 := HBX.out.cell 0
  have x1 := HBX.out.cell 1
  have x2 := HBX.out.cell 2
  have x3 := HBX.out.cell 3
  have x4 := HBX.out.cell 4
  have x5 := HBX.out.cell 5
  have x6 := HBX.out.cell 6
  have x7 := HBX.out.cell 7
  simp only [List.getElem?_toArray, List.getElem?_cons_zero, List.getElem?_cons_succ] at x0 x1 x2 x3 x4 x5 x6 x7
  go_enter Tryz.func10, Tryz.ntmps10
  go_upto_region 3 with fail
  rw [← hqe, ← hW]
  clear hqe hW HAV
  go_region_held3 (fun w' => w'.cell? ⟨q, 0, none⟩ = some (.int .u8 K) ∧ w'.cell? ⟨q, 1, none⟩ = some (.int .i64 Bl) ∧ w'.cell? ⟨q, 2, none⟩ = some (.slice A n c) ∧ w'.cell? ⟨q, 3, none⟩ = some (.int .i64 le) ∧ w'.cell? ⟨q, 4, none⟩ = some (.int .i64 bi) ∧ w'.cell? ⟨q, 5, none⟩ = some (.int .u8 K2) ∧ w'.cell? ⟨q, 6, none⟩ = some (.int .i64 B2) ∧ w'.cell? ⟨q, 7, none⟩ = some (.int .u8 S2)) (go_keep)
    ((have H := HCA; go_at_call 32; refine H.out.mono ?_; rintro r w1 ⟨rfl, hk2⟩; have HK2 := Lib.hid hk2; have HX1 := Lib.hid (Blk.keeps (w := W.drew) HBX.out hk2 id); have y0 := HX1.out.cell 0; have y1 := HX1.out.cell 1; have y2 := HX1.out.cell 2; have y3 := HX1.out.cell 3; have y4 := HX1.out.cell 4; have y5 := HX1.out.cell 5; have y6 := HX1.out.cell 6; have y7 := HX1.out.cell 7; simp only [List.getElem?_toArray, List.getElem?_cons_zero, List.getElem?_cons_succ] at y0 y1 y2 y3 y4 y5 y6 y7; clear hk2 HCA))
  have HQ1 := Lib.hid ((HQ.out.more HK1.out).more HK2.out)
  have HKW := Lib.hid (HK1.out.trans HK2.out)
  by_cases h0 : ca = 0
  · subst h0
    obtain ⟨hb1, hk⟩ := chkA_ok HCK.out
    simp only at hb1 hk
    by_cases h5 : K2 = 5
    · subst h5
      have HPE : Hid (p = pStop ⟨⟨K, Bl, L, le, bi⟩, 5, B2, S2⟩ bs (l, cont G)) := by show p = _; rw [HP.out, if_pos rfl, if_pos rfl]
      have HSR := Lib.hid (HST.out w1 HK2.out hb1)
      clear HP HST HIT
      go_wp2_with fail
      refine HSR.out.mono ?_
      rintro r w2 ⟨F', G', rfl, hq', hc', hs'⟩
      have HR := Lib.hid (show Ql F' B g _ G' N w2 from hq')
      have HC := Lib.hid hc'
      have HS := Lib.hid hs'
      clear hq' hc' hs' HSR
      go_wp2
      go_ret
      rw [HPE.out]
      exact ⟨F', G', rfl, HR.out.le (by omega), HC.out, Step.pre HKW.out HS.out⟩
    · have h4 : K2 = 4 := by omega
      subst h4
      have HPE : Hid (p = pCnt ⟨⟨K, Bl, L, le, bi⟩, 4, B2, S2⟩ bs (l, cont G)) := by show p = _; rw [HP.out, if_pos rfl, if_neg (by decide)]
      have HSR := Lib.hid (HIT.out w1 HK2.out)
      have hlen := pInt_len ⟨K, Bl, L, le, bi⟩ m (l, cont G)
      obtain ⟨i, hi⟩ := Int.eq_ofNat_of_zero_le (show 0 ≤ B2 by omega)
      subst hi
      have HPF : Hid (p = if (pInt ⟨K, Bl, L, le, bi⟩ m (l, cont G)).1 = 0 then (0, ((pInt ⟨K, Bl, L, le, bi⟩ m (l, cont G)).2.1, pc (pInt ⟨K, Bl, L, le, bi⟩ m (l, cont G)).2.2 i (hadP (pInt ⟨K, Bl, L, le, bi⟩ m (l, cont G)).2.2 i ++ bs))) else pInt ⟨K, Bl, L, le, bi⟩ m (l, cont G)) := by
        show p = _
        rw [HPE.out, pCnt, HMM.out]
        rfl
      clear HP HST HIT HPE
      unfold Did at HSR
      obtain ⟨p1, hp1⟩ : ∃ p1, pInt ⟨K, Bl, L, le, bi⟩ m (l, cont G) = p1 := ⟨_, rfl⟩
      rw [hp1] at HSR HPF hlen
      clear hp1
      obtain ⟨e1, l1, f1⟩ := p1
      simp only at HSR HPF hlen
      have HLN := Lib.hid hlen
      clear hlen
      go_wp2_with fail
      refine HSR.out.mono ?_
      rintro r w2 ⟨F', G', rfl, hq', hc', hs'⟩
      have HR := Lib.hid hq'
      have HC := Lib.hid hc'
      have HS := Lib.hid hs'
      have HX2 := Lib.hid (HX1.out.keeps hs'.keeps fun e => HQF.out q e rfl)
      have z6 := HX2.out.cell 6
      simp only [List.getElem?_toArray, List.getElem?_cons_zero, List.getElem?_cons_succ] at z6
      clear hq' hc' hs' HSR
      by_cases he : e1 = 0
      · subst he
        have HPG : Hid (p = (0, (l1, pc f1 i (hadP f1 i ++ bs)))) := by show p = _; rw [HPF.out, if_pos rfl]
        obtain ⟨Fb1, Fc1, v1, mb1, mc1, h1⟩ := HR.out
        obtain ⟨last1, o1, hb2, hr2⟩ := row_cells h1.row
        have hB2 : B ≤ w2.heap.size := Nat.le_trans (Nat.le_trans HB1.out HK2.out.size) HS.out.keeps.size
        have HIN := Lib.hid (into_ g 77 #[v1, .int .u64 last1, .int .i64 o1, mb1, mc1] Fb1 mb1 G' i w2 (by omega) hb2 rfl h1.ing.2.1 h1.wms)
        have HB2 := Lib.hid hB2
        have HH1 := Lib.hid h1
        have HR2 := Lib.hid hr2
        have HGS : Hid ((had G' i).length + m ≤ 1000000) := by
          have h2 := HLN.out.2 i
          have h3 := HGL.out i
          rw [had_cont] at h3
          show (had G' i).length + m ≤ 1000000
          rw [had_cont, HC.out]
          omega
        have HL2 : Hid (Lies w2 A2 bs) := lies_keeps (HLI.out.keeps HKW.out fun _ _ _ => id) HS.out.keeps HE2.out
        have HE3 : Hid (bs ≠ [] → ∀ b o, A2 = some ⟨b, o, none⟩ → b < w.heap.size → ¬ F' b) := fun hn b o e hb hf => by
          rcases HS.out.sub b hf with h2 | h2
          · exact HE2.out hn b o e h2
          · have := HKW.out.size
            omega
        have HLW : Hid (bs = [] ∨ ∀ b o, A2 = some ⟨b, o, none⟩ → b < w.heap.size) := by
          rcases HLI.out with h2 | ⟨b, o, h2, h3, _⟩
          · exact .inl h2
          · refine .inr fun b' o' e => ?_
            rw [h2] at e
            injection e with e
            injection e with e
            omega
        clear HPF h1 hb2 hr2 hB2
        go_wp2_with fail
        refine HIN.out.mono ?_
        rintro r w3 ⟨gi, vi, mb', Fb', rfl, j1, j2, j3, j4⟩
        have J := Lib.hid (HH1.out.wms' HB2.out HR2.out (by exact j1) j2 j3 j4)
        have hwr : IsWr 0 gi vi (had G' i) w3 := by
          rcases j3.2 with ⟨_, hn⟩ | ⟨b, _, hm⟩
          · have := hn i
            simp [pu] at this
          · exact (hm.wr i _ (pu_at G' i _)).2.1
        have hl3 : Lies w3 A2 bs := by
          rcases HLW.out with h2 | h2
          · exact .inl h2
          · exact lies_keeps HL2.out J.out.2.keeps fun hn b o e => HE3.out hn b o e (h2 b o e)
        have HPT := Lib.hid (Ww.put gi 0 vi (had G' i) bs A2 m c2 w3 HMM.out h02 hwr hl3 HGS.out)
        clear j1 j2 j3 j4 HIN hwr hl3
        go_wp2_with fail
        refine HPT.out.mono ?_
        rintro r w4 hp
        obtain rfl := hp.1
        have HPU := Lib.hid hp
        clear hp HPT
        go_wp2
        go_ret
        obtain ⟨jq, js⟩ := J.out
        obtain ⟨F3, v3, hq3, hs3⟩ := jq.put' (Nat.le_trans HB2.out js.keeps.size) (pu_at G' i _) HPU.out
        rw [HPG.out]
        refine ⟨F3, _, rfl, hq3, ?_, (Step.pre HKW.out (HS.out.trans js)).trans hs3⟩
        rw [pu_pu, cont_pu, HC.out, had_cont, HC.out]
      · have hne : (e1 != 0) = true := by simpa using he
        go_wp2
        go_ret
        rw [HPF.out, if_neg he]
        exact ⟨F', G', rfl, HR.out, HC.out, Step.pre HKW.out HS.out⟩
  · have hne : (ca != 0) = true := by simpa using h0
    go_wp2
    go_ret
    rw [HP.out, if_neg h0]
    exact ⟨F, G, rfl, HQ1.out.le (by omega), rfl, Step.quiet HKW.out⟩
end Go.Proofs.YtgaofnmgdefdcaaGreatDoor.Qu
