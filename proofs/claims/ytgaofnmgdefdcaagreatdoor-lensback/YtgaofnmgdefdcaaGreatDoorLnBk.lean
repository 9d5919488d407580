/- The walk of LensBack: any ways, any acts. The condition: strconv's table of tens reads as its text lays it. -/
import Derived.Test.YtgaofnmgdefdcaaGreatDoorJLnBkQAnyInv
import Derived.Deep.CutRange
import Derived.Deep.CutBlock
import Derived.Deep.RegionHeld3
namespace Go.Proofs.YtgaofnmgdefdcaaGreatDoor.Lb
open Go.RowKit Go.Proofs.YtgaofnmgdefdcaaGreatDoor.Gen Go.Proofs.YtgaofnmgdefdcaaGreatDoor.Hu Go.Proofs.YtgaofnmgdefdcaaGreatDoor.Mp Go.Proofs.YtgaofnmgdefdcaaGreatDoor.Cm Go.Proofs.YtgaofnmgdefdcaaGreatDoor.Hr Go.Proofs.YtgaofnmgdefdcaaGreatDoor.Hn Go.Proofs.YtgaofnmgdefdcaaGreatDoor.Hk Go.Proofs.YtgaofnmgdefdcaaGreatDoor.Ln Go.Proofs.YtgaofnmgdefdcaaGreatDoor.Ds Go.Proofs.YtgaofnmgdefdcaaGreatDoor.Ky Go.Proofs.YtgaofnmgdefdcaaGreatDoor.Wr Go.Proofs.YtgaofnmgdefdcaaGreatDoor.Ir Go.Proofs.YtgaofnmgdefdcaaGreatDoor.Ib Go.Proofs.YtgaofnmgdefdcaaGreatDoor.Br Go.Proofs.YtgaofnmgdefdcaaGreatDoor.Bp Go.Proofs.YtgaofnmgdefdcaaGreatDoor.Qh Go.Proofs.YtgaofnmgdefdcaaGreatDoor.Qs Go.Proofs.YtgaofnmgdefdcaaGreatDoor.Qf Go.Proofs.YtgaofnmgdefdcaaGreatDoor.Qc Go.Proofs.YtgaofnmgdefdcaaGreatDoor.It Go.Proofs.YtgaofnmgdefdcaaGreatDoor.Qi Go.Proofs.YtgaofnmgdefdcaaGreatDoor.Qu Go.Proofs.YtgaofnmgdefdcaaGreatDoor.Qn Go.Proofs.YtgaofnmgdefdcaaGreatDoor.Le

theorem numOf_wf {N wh : Int} {d : D} (hd : chkI d = 0) (hN : -9223372036854775808 ≤ N ∧ N ≤ 9223372036854775807) : (Lit.int .i64 (numOf N wh d)).wf = true := by
  have hr : -9223372036854775808 ≤ numOf N wh d ∧ numOf N wh d ≤ 9223372036854775807 := by
    unfold numOf
    split
    · exact hN
    · split
      · rename_i h3
        have hw : newE d.L = 0 := by simpa [chkI, h3] using hd
        rcases Nat.lt_or_ge (wh % d.L.length).toNat d.L.length with h | h
        · have := newE_in hw (d.L.getD (wh % d.L.length).toNat (0, 0)) (by rw [List.getD_eq_getElem?_getD, List.getElem?_eq_getElem h]; exact List.getElem_mem h)
          omega
        · rw [List.getD_eq_getElem?_getD, List.getElem?_eq_none h]
          simp
      · split
        · rename_i h6
          rcases chkI_in hd with h | h | h
          · omega
          · omega
          · obtain ⟨b, hb⟩ := Int.eq_ofNat_of_zero_le h.2.2.1
            have h31 : b ≤ 31 := by have := h.2.2.2; omega
            have h0 := Int.emod_nonneg (N % 4294967296) (show (2 : Int) ^ d.bi.toNat ≠ 0 by exact Int.ne_of_gt (Int.pow_pos (by decide)))
            have h1 := Int.emod_lt_of_pos (N % 4294967296) (show (0 : Int) < 4294967296 by decide)
            have h2 : N % 4294967296 % 2 ^ d.bi.toNat ≤ N % 4294967296 := by
              have hp : (0 : Int) < 2 ^ d.bi.toNat := Int.pow_pos (by decide)
              have := Int.emod_nonneg N (show (4294967296 : Int) ≠ 0 by decide)
              have h5 := Int.emod_add_mul_ediv (N % 4294967296) (2 ^ d.bi.toNat)
              have h6 : 0 ≤ 2 ^ d.bi.toNat * (N % 4294967296 / 2 ^ d.bi.toNat) := Int.mul_nonneg (Int.le_of_lt hp) (Int.ediv_nonneg this (Int.le_of_lt hp))
              omega
            have := h.2.1
            omega
        · omega
  have hm : IntKind.i64.min = -9223372036854775808 ∧ IntKind.i64.max = 9223372036854775807 := by decide
  simp [Lit.wf, hm.1, hm.2]
  omega
theorem Rows.anew {w1 w w' : World} {gw cw n2 nd cd : Nat} {f : Nat → Sm} {fa : Nat → Option Addr} {fc : Nat → Nat} {Ad : Option Addr} {ds : List Ac} {F F' : Nat → Prop} (h : Rows w1 gw cw n2 f fa fc Ad nd cd ds F w) (k : Keeps (fun _ => False) w w') (hF : ∀ x, F' x → w.heap.size ≤ x) : Rows w1 gw cw n2 f fa fc Ad nd cd ds F' w' := by
  have h' := h.more k
  refine ⟨h'.ways, h'.done, fun e => ?_, fun b hb e => ?_, h'.keeps⟩
  · have := (own_ltG h.ways (b := gw) rfl).2
    have := hF _ e
    omega
  · have := (own_ltG h.done hb).2
    have := hF _ e
    omega
theorem ql_far {B g N : Nat} {F : Nat → Prop} {l : List Nat} {G : Gs} {w : World} (h : Ql F B g l G N w) : ∀ i, 60001 ≤ i → cont G i = none := by
  intro i hi
  unfold cont
  cases hG : G i with
  | none => rfl
  | some e =>
    exfalso
    obtain ⟨Fb, Fc, v, mb', mc, hh⟩ := h
    rcases hh.wms.2 with ⟨_, h0⟩ | ⟨b, _, hat⟩
    · rw [h0 i] at hG; cases hG
    · have := (hat.wr i e hG).1
      omega
theorem own_frozen {w : World} {base g n c sz : Nat} {e : TypeId} {xs : List Value} (h : w.ownsRow base e sz (.slice (some ⟨g, 0, none⟩) n c) n xs) (j : Nat) : w.frozen? ⟨g, j, none⟩ = false := by
  rcases h.2 with ⟨h, _⟩ | ⟨g', cap, cur, hv, hb, hh, _⟩
  · cases h
  · injection hv with hv _ _
    injection hv with hv
    injection hv with hv
    subst hv
    exact (show Blk w g e cur from hh).frozen j
set_option maxHeartbeats 32000000 in
set_option maxRecDepth 100000 in
theorem back_ (fs : Nat → Ac) (fw : Nat → Sm) (fa : Nat → Option Addr) (fc : Nat → Nat) (A1 A2 : Option Addr) (n1 n2 c1 c2 b1 b2 o1 o2 : Nat) (w : World) (ht : Tab w.heap.size w)
    (h1 : Acts w A1 n1 fs b1 o1) (h2 : Ways w A2 n2 fw fa fc b2 o2) :
    Calls Tryz.prog 4 #[.slice A2 n2 c2, .slice A1 n1 c1] w fun r w' => r = .returned (.bool true) ∧ Keeps (fun _ => False) w w' := by
  have HT := Lib.hid ht
  have H1 := Lib.hid h1
  have H2 := Lib.hid h2
  have HAW := Lib.hid (Le.awake w ht)
  clear ht h1 h2
  go_enter Tryz.func4, Tryz.ntmps4
  go_wp2_with fail
  refine HAW.out.mono ?_
  rintro r w1 ⟨rfl, hk1⟩
  have HK1 := Lib.hid hk1
  have HT1 := Lib.hid (Tab_rise (HT.out.more (Nat.le_refl _) hk1) hk1.size)
  have HS1 : Hid (w.heap.size ≤ w1.heap.size) := hk1.size
  clear hk1 HAW HT
  by_cases hn2 : (n2 : Int) < 1
  · go_wp2
    go_ret
    exact ⟨rfl, HK1.out⟩
  by_cases hn3 : (8 : Int) < (n2 : Int)
  · go_wp2
    go_ret
    exact ⟨rfl, HK1.out⟩
  by_cases hn1 : (60 : Int) < (n1 : Int)
  · go_wp2
    go_ret
    exact ⟨rfl, HK1.out⟩
  have HNN : Hid (n1 ≤ 60 ∧ 1 ≤ n2 ∧ n2 ≤ 8) := by show _ ∧ _; omega
  obtain ⟨hA2, hb2⟩ := H2.out.at_ (by omega)
  subst hA2
  go_upto_region 5 with fail
  have HOE := Lib.hid (own_emptyG w1 37 7 w1.heap.size (Nat.le_refl _))
  have HNW := Lib.hid (ways_news H2.out (HK1.out.alloc (.cells #[] 37)))
  have HSW : Hid (w1.heap.size ≤ (w1.alloc (.cells #[] 37)).heap.size) := by show _ ≤ _; simp
  clear hn1 hn2 hn3 hb2
  go_upto_region 6 with (
    at_builtin
    refine wpList_appS rfl (.tmp 32) (.tmp 33) rfl w1.heap.size 0 n2 c2 (.slice (some ⟨w1.heap.size, 0, none⟩) 0 0) [] (smv fw fa fc n2) ⟨b2, o2, none⟩ rfl HOE.out rfl (smv_len _ _ _ _) HNW.out (smv_one _ _ _ _) (by have := HNN.out; omega) HSW.out ?_
    intro v3 w3 hown3 hg3 hat3
    rw [List.nil_append, Nat.zero_add] at hown3
    obtain ⟨A3, cw, rfl, _⟩ := own_form hown3
    have HK3 := Lib.hid (((Keeps.refl (fun _ => False) w1).alloc (.cells #[] 37)).grown hg3 (fun k hk => .inr (own_ltG HOE.out hk).1))
    have HO3 := Lib.hid hown3
    clear hown3 hg3 hat3)
  obtain ⟨gw, rfl, hgw, hgwl⟩ := own_someG HO3.out (by have := HNN.out; omega)
  have HGW0 := Lib.hid hgw
  clear hgw hgwl HOE HNW HSW
  go_wp2
  go_loopw [37] (fun iv wr => ∃ j : Nat, iv = .int .i64 (j : Int) ∧ j ≤ n2 ∧ Hid (wr.ownsRow w1.heap.size 37 7 (.slice (some ⟨gw, 0, none⟩) n2 cw) n2 (smv (wset fw j) fa fc n2) ∧ Keeps (fun _ => False) w1 wr)) (fun iv _ => n2 - (intOf iv).toNat)
  case atStart => exact ⟨0, rfl, by omega, by rw [wset_zero]; exact ⟨HO3.out, HK3.out⟩⟩
  case round =>
    obtain ⟨j, rfl, hj, HO⟩ := hrel
    clear HO3 HK3
    by_cases hlt : j < n2
    · obtain ⟨ho, hk⟩ := HO.out
      have hs := smv_get (wset fw j) fa fc hlt (show 2 < 7 by omega)
      have hc := ho.cells (g := gw) rfl (j * 7 + 2) (.int .u16 (wset fw j j).B) (by rw [hs]; rfl)
      rw [add_none, Nat.zero_add] at hc
      have hf := own_frozen ho (j * 7 + 2)
      have HN : Hid ((wr.setCell ⟨gw, j * 7 + 2, none⟩ (.int .u16 (j : Int))).ownsRow w1.heap.size 37 7 (.slice (some ⟨gw, 0, none⟩) n2 cw) n2 (smv (wset fw (j + 1)) fa fc n2) ∧ Keeps (fun _ => False) w1 (wr.setCell ⟨gw, j * 7 + 2, none⟩ (.int .u16 (j : Int)))) := by
        refine ⟨?_, keeps_low hk ((Keeps.refl _ _).setOwn (j * 7 + 2) (.int .u16 (j : Int))) (fun x hx => by subst hx; exact HGW0.out)⟩
        rw [← smv_set fw fa fc hlt]
        exact own_setG ho _
      have hj0 : (0 : Int) ≤ (j : Int) := by omega
      have hj1 : (j : Int) < (n2 : Int) := by omega
      have hjw : IntKind.i64.wrap ((j : Int) + 1) = (j : Int) + 1 := IntWalk.i64_in _ (by have := HNN.out; omega)
      have hju : IntKind.u16.wrap (j : Int) = (j : Int) := by rw [IntKind.wrap_u16]; have := HNN.out; omega
      clear ho hk hs HO
      go_wp2
      exact ⟨⟨j + 1, by go_num, by omega, HN⟩, by simp [intOf]; omega⟩
    · obtain rfl : j = n2 := by omega
      obtain ⟨fv, hfv⟩ : ∃ fv, wset fw j = fv := ⟨_, rfl⟩
      have HVOK : Hid (∀ i, i < j → (fv i).ok) := by show ∀ i, i < j → (fv i).ok; rw [← hfv]; exact wset_ok H2.out.ok HNN.out.2.2
      rw [hfv] at HO
      clear hfv hlt hj
      go_wp2_with fail
      refine (new_q w1.heap.size wr HO.out.2.size).mono ?_
      rintro r w2 ⟨rfl, hq2, hs2⟩
      obtain ⟨q, hq⟩ : ∃ q, q = wr.heap.size := ⟨_, rfl⟩
      have HQ0 : Hid (Qd w1 q gw cw j fv fa fc none 0 0 [] p0 0 w2) := by
        have hq3 : Ql (· = q) w1.heap.size q [] (fun _ => none) 0 w2 := by rw [hq]; exact hq2
        have hgl := (own_ltG HO.out.1 (b := gw) rfl).2
        refine ⟨⟨(· = q), fun _ => none, 0, hq3, rfl, ⟨own_keeps HO.out.1 hs2.keeps fun _ _ => id, World.ownsRow_nil _ _ _ _, by show ¬ gw = q; omega, fun b hb => by simp [Value.ownBlock] at hb, (HO.out.2.trans hs2.keeps).mono fun _ _ hf => hf.elim⟩, Nat.le_refl _⟩, by simp [p0], fun i => by simp [p0, hadP]⟩
      rw [← hq]
      clear hq2 hs2 hq
      go_wp2
      go_loopw [7, 50] (fun dv iv wr => ∃ (i : Nat) (Ad : Option Addr) (nd cd : Nat) (ds : List Ac), iv = .int .i64 (i : Int) ∧ dv = .slice Ad nd cd ∧ i ≤ n1 ∧ Hid (Qd w1 q gw cw j fv fa fc Ad nd cd ds (runD fv j ds) i wr ∧ Pl fv j fs n1 ds nd i)) (fun _ iv _ => n1 - (intOf iv).toNat)
      case atStart => exact ⟨0, none, 0, 0, [], rfl, rfl, by omega, HQ0.out, Pl.start _ _ _ _⟩
      case round =>
        obtain ⟨i, Ad, nd, cd, ds, rfl, rfl, hi, HQ⟩ := hrel
        clear HQ0 HO
        by_cases hlt : i < n1
        · obtain ⟨wb, rfl⟩ : ∃ x, x = wr := ⟨_, rfl⟩
          obtain ⟨n2, rfl⟩ : ∃ x, x = j := ⟨_, rfl⟩
          obtain ⟨hA1, hb1⟩ := H1.out.at_ (by omega)
          subst hA1
          have hKw : Keeps (w.heap.size ≤ ·) w wb := (HK1.out.mono fun _ _ hf => hf.elim).trans (HQ.out.1.keeps.mono fun k _ hf => Nat.le_trans HS1.out hf)
          obtain ⟨F6, hrows⟩ := HQ.out.1.rows
          have hac := (H1.out.keeps hKw).cell i hlt
          have haok := (H1.out.keeps hKw).ok i hlt
          have hlow := (H1.out.ok i hlt).low
          obtain ⟨a, ha⟩ : ∃ a, fs i = a := ⟨_, rfl⟩
          rw [ha] at hac haok hlow
          have HFA := Lib.hid ha
          have hj0 : (0 : Int) ≤ (i : Int) := by omega
          have hj1 : (i : Int) < (n1 : Int) := by omega
          have hjw : IntKind.i64.wrap ((i : Int) + 1) = (i : Int) + 1 := IntWalk.i64_in _ (by have := HNN.out; omega)
          obtain ⟨p, hp⟩ : ∃ p, runD fv n2 ds = p := ⟨_, rfl⟩
          have HPP := Lib.hid hp
          have HPL := Lib.hid HQ.out.2
          have HQD := Lib.hid HQ.out.1
          rw [hp] at HQD
          have HKB := Lib.hid (hrows.all HK1.out)
          clear ha hp hKw HQ
          obtain ⟨hrem, hk⟩ := wayAt_lt (a := a) (n := n2) haok.way.1 (by have := HNN.out; omega)
          obtain ⟨k, hkk⟩ : ∃ k, wayAt a n2 = k := ⟨_, rfl⟩
          rw [hkk] at hrem hk
          have hsc := fun j hj => hrows.cell (i := k) (j := j) hk hj
          have hsok := HVOK.out k hk
          obtain ⟨sm, hsm⟩ : ∃ sm, fv k = sm := ⟨_, rfl⟩
          obtain ⟨As, hAs⟩ : ∃ As, fa k = As := ⟨_, rfl⟩
          obtain ⟨cs, hcs⟩ : ∃ cs, fc k = cs := ⟨_, rfl⟩
          rw [hsm, hAs, hcs] at hsc
          rw [hsm] at hsok
          have HDE : Hid (∀ q, deed fv n2 a q = if a.arr = true then pArr sm.A a.bs q else pInt sm.I (numOf a.N a.wh sm.I) q) := fun q => by rw [deed, hkk, hsm]
          have HWA : Hid (fv (wayAt a n2) = sm) := by show _ = _; rw [hkk, hsm]
          have HGW := Lib.hid (own_ltG hrows.ways (b := gw) rfl).2
          clear hkk hsm hAs hcs hrows
          obtain ⟨way, N, wh, Ab, nb, cb, arr, bs⟩ := a
          have HAO := Lib.hid haok
          have HSO := Lib.hid hsok
          have HLOW := Lib.hid hlow
          obtain ⟨sK, sbi, sB, sle, sn, sS, sst⟩ := sm
          have hway := haok.way
          simp only at hway hrem
          have e0 := hac 0 (by omega)
          have e1 := hac 1 (by omega)
          have e2 := hac 2 (by omega)
          have e3 := hac 3 (by omega)
          have e4 := hac 4 (by omega)
          have g0 := hsc 0 (by omega)
          have g1 := hsc 1 (by omega)
          have g2 := hsc 2 (by omega)
          have g3 := hsc 3 (by omega)
          have g4 := hsc 4 (by omega)
          have g5 := hsc 5 (by omega)
          have g6 := hsc 6 (by omega)
          unfold Ac.v actv at e0 e1 e2 e3 e4
          unfold Sm.v at g0 g1 g2 g3 g4 g5 g6
          simp only [List.getElem?_toArray, List.getElem?_cons_zero, List.getElem?_cons_succ, Nat.add_zero] at e0 e1 e2 e3 e4 g0 g1 g2 g3 g4 g5 g6
          have HFAR : Hid (∀ o' : Obj, ∀ y, (wb.alloc o').cell? ⟨gw, y, none⟩ = wb.cell? ⟨gw, y, none⟩) := fun o' y => World.cell?_of_block (w := wb) (Below.heap_alloc wb o' gw HGW.out)
          have q0 := (HFAR.out (.cells #[.int .u8 way, .int .i64 N, .int .u8 wh, .slice Ab nb cb, .bool arr] 33) _).trans g0
          have q1 := (HFAR.out (.cells #[.int .u8 way, .int .i64 N, .int .u8 wh, .slice Ab nb cb, .bool arr] 33) _).trans g1
          have q2 := (HFAR.out (.cells #[.int .u8 way, .int .i64 N, .int .u8 wh, .slice Ab nb cb, .bool arr] 33) _).trans g2
          have q3 := (HFAR.out (.cells #[.int .u8 way, .int .i64 N, .int .u8 wh, .slice Ab nb cb, .bool arr] 33) _).trans g3
          have q4 := (HFAR.out (.cells #[.int .u8 way, .int .i64 N, .int .u8 wh, .slice Ab nb cb, .bool arr] 33) _).trans g4
          have q5 := (HFAR.out (.cells #[.int .u8 way, .int .i64 N, .int .u8 wh, .slice Ab nb cb, .bool arr] 33) _).trans g5
          have q6 := (HFAR.out (.cells #[.int .u8 way, .int .i64 N, .int .u8 wh, .slice Ab nb cb, .bool arr] 33) _).trans g6
          have hww : IntKind.i64.wrap way = way := IntWalk.i64_in _ (by omega)
          have hn2e : ¬ ((n2 : Int) = 0) := by have := HNN.out; omega
          have hn2f : ¬ n2 = 0 := by have := HNN.out; omega
          have hk0 : (0 : Int) ≤ (k : Int) := by omega
          have hk1 : (k : Int) < (n2 : Int) := by omega
          clear hac hsc haok hsok hlow g0 g1 g2 g3 g4 g5 g6
          go_upto_region 17 with fail
          have HB1 : Hid (Blk ((wb.alloc (.cells #[.int .u8 way, .int .i64 N, .int .u8 wh, .slice Ab nb cb, .bool arr] 33)).alloc (.cells #[.int .u8 sK, .int .u8 sbi, .int .u16 sB, .int .i16 sle, .slice As sn cs, .int .u8 sS, .bool sst] 37)) wb.heap.size 33 #[.int .u8 way, .int .i64 N, .int .u8 wh, .slice Ab nb cb, .bool arr]) := Lib.hid ((Blk.new wb 33 _).keeps ((Keeps.refl (fun _ => False) _).alloc _) id)
          have HB2 : Hid (Blk ((wb.alloc (.cells #[.int .u8 way, .int .i64 N, .int .u8 wh, .slice Ab nb cb, .bool arr] 33)).alloc (.cells #[.int .u8 sK, .int .u8 sbi, .int .u16 sB, .int .i16 sle, .slice As sn cs, .int .u8 sS, .bool sst] 37)) (wb.heap.size + 1) 37 #[.int .u8 sK, .int .u8 sbi, .int .u16 sB, .int .i16 sle, .slice As sn cs, .int .u8 sS, .bool sst]) := by
            have := Blk.new (wb.alloc (.cells #[.int .u8 way, .int .i64 N, .int .u8 wh, .slice Ab nb cb, .bool arr] 33)) 37 #[.int .u8 sK, .int .u8 sbi, .int .u16 sB, .int .i16 sle, .slice As sn cs, .int .u8 sS, .bool sst]
            have e1 : (wb.alloc (.cells #[.int .u8 way, .int .i64 N, .int .u8 wh, .slice Ab nb cb, .bool arr] 33)).heap.size = wb.heap.size + 1 := by simp
            rw [e1] at this
            exact this
          have HK8 : Hid (Keeps (fun _ => False) wb ((wb.alloc (.cells #[.int .u8 way, .int .i64 N, .int .u8 wh, .slice Ab nb cb, .bool arr] 33)).alloc (.cells #[.int .u8 sK, .int .u8 sbi, .int .u16 sB, .int .i16 sle, .slice As sn cs, .int .u8 sS, .bool sst] 37))) := Lib.hid (((Keeps.refl _ _).alloc _).alloc _)
          generalize (wb.alloc (.cells #[.int .u8 way, .int .i64 N, .int .u8 wh, .slice Ab nb cb, .bool arr] 33)).alloc (.cells #[.int .u8 sK, .int .u8 sbi, .int .u16 sB, .int .i16 sle, .slice As sn cs, .int .u8 sS, .bool sst] 37) = W at HB1 HB2 HK8 ⊢
          clear HFAR q0 q1 q2 q3 q4 q5 q6 e0 e1 e2 e3 e4
          obtain ⟨ga, hga⟩ : ∃ g, wb.heap.size = g := ⟨_, rfl⟩
          obtain ⟨gs, hgs⟩ : ∃ g, ga + 1 = g := ⟨_, rfl⟩
          rw [hga, hgs] at HB2 ⊢
          rw [hga] at HB1
          have HGA : Hid (wb.heap.size ≤ ga ∧ wb.heap.size ≤ gs ∧ ga < W.heap.size ∧ gs < W.heap.size) := ⟨by omega, by omega, HB1.out.lt, HB2.out.lt⟩
          clear hga hgs
          have HG : Hid (∀ W1, Keeps (fun _ => False) W W1 → (W1.cell? ⟨gs, 0, none⟩ = some (.int .u8 sK) ∧ W1.cell? ⟨gs, 1, none⟩ = some (.int .u8 sbi) ∧ W1.cell? ⟨gs, 2, none⟩ = some (.int .u16 sB) ∧ W1.cell? ⟨gs, 3, none⟩ = some (.int .i16 sle) ∧ W1.cell? ⟨gs, 4, none⟩ = some (.slice As sn cs) ∧ W1.cell? ⟨gs, 5, none⟩ = some (.int .u8 sS) ∧ W1.cell? ⟨gs, 6, none⟩ = some (.bool sst) ∧ W1.cell? ⟨ga, 0, none⟩ = some (.int .u8 way) ∧ W1.cell? ⟨ga, 1, none⟩ = some (.int .i64 N) ∧ W1.cell? ⟨ga, 2, none⟩ = some (.int .u8 wh) ∧ W1.cell? ⟨ga, 3, none⟩ = some (.slice Ab nb cb) ∧ W1.cell? ⟨ga, 4, none⟩ = some (.bool arr))) := by
            intro W1 k
            have h0 := HB2.out.keeps k id
            have h1 := HB1.out.keeps k id
            exact ⟨h0.cell 0, h0.cell 1, h0.cell 2, h0.cell 3, h0.cell 4, h0.cell 5, h0.cell 6, h1.cell 0, h1.cell 1, h1.cell 2, h1.cell 3, h1.cell 4⟩
          have HGF : Hid (∀ (W2 W1 : World), Keeps (fun _ => False) W W1 → (∀ g, wb.heap.size ≤ g → g < W1.heap.size → ∀ i, W2.cell? ⟨g, i, none⟩ = W1.cell? ⟨g, i, none⟩) → (W2.cell? ⟨gs, 0, none⟩ = some (.int .u8 sK) ∧ W2.cell? ⟨gs, 1, none⟩ = some (.int .u8 sbi) ∧ W2.cell? ⟨gs, 2, none⟩ = some (.int .u16 sB) ∧ W2.cell? ⟨gs, 3, none⟩ = some (.int .i16 sle) ∧ W2.cell? ⟨gs, 4, none⟩ = some (.slice As sn cs) ∧ W2.cell? ⟨gs, 5, none⟩ = some (.int .u8 sS) ∧ W2.cell? ⟨gs, 6, none⟩ = some (.bool sst) ∧ W2.cell? ⟨ga, 0, none⟩ = some (.int .u8 way) ∧ W2.cell? ⟨ga, 1, none⟩ = some (.int .i64 N) ∧ W2.cell? ⟨ga, 2, none⟩ = some (.int .u8 wh) ∧ W2.cell? ⟨ga, 3, none⟩ = some (.slice Ab nb cb) ∧ W2.cell? ⟨ga, 4, none⟩ = some (.bool arr))) := by
            intro W2 W1 k hf
            obtain ⟨q1, q2, q3, q4⟩ := HGA.out
            have ea := hf ga q1 (Nat.lt_of_lt_of_le q3 k.size)
            have es := hf gs q2 (Nat.lt_of_lt_of_le q4 k.size)
            rw [es 0, es 1, es 2, es 3, es 4, es 5, es 6, ea 0, ea 1, ea 2, ea 3, ea 4]
            exact HG.out W1 k
          have HGX : Hid (∀ W2, Keeps (fun x => w1.heap.size ≤ x ∧ x < wb.heap.size) W W2 → (W2.cell? ⟨gs, 0, none⟩ = some (.int .u8 sK) ∧ W2.cell? ⟨gs, 1, none⟩ = some (.int .u8 sbi) ∧ W2.cell? ⟨gs, 2, none⟩ = some (.int .u16 sB) ∧ W2.cell? ⟨gs, 3, none⟩ = some (.int .i16 sle) ∧ W2.cell? ⟨gs, 4, none⟩ = some (.slice As sn cs) ∧ W2.cell? ⟨gs, 5, none⟩ = some (.int .u8 sS) ∧ W2.cell? ⟨gs, 6, none⟩ = some (.bool sst) ∧ W2.cell? ⟨ga, 0, none⟩ = some (.int .u8 way) ∧ W2.cell? ⟨ga, 1, none⟩ = some (.int .i64 N) ∧ W2.cell? ⟨ga, 2, none⟩ = some (.int .u8 wh) ∧ W2.cell? ⟨ga, 3, none⟩ = some (.slice Ab nb cb) ∧ W2.cell? ⟨ga, 4, none⟩ = some (.bool arr))) := by
            intro W2 k
            obtain ⟨q1, q2, q3, q4⟩ := HGA.out
            have h0 := HB2.out.keeps k (fun h => by omega)
            have h1 := HB1.out.keeps k (fun h => by omega)
            exact ⟨h0.cell 0, h0.cell 1, h0.cell 2, h0.cell 3, h0.cell 4, h0.cell 5, h0.cell 6, h1.cell 0, h1.cell 1, h1.cell 2, h1.cell 3, h1.cell 4⟩
          obtain ⟨x0, x1, x2, x3, x4, x5, x6, y0, y1, y2, y3, y4⟩ := HG.out W (Keeps.refl _ _)
          by_cases hnb : (100 : Int) < (nb : Int)
          · go_wp2
            go_ret
            exact ⟨rfl, HKB.out.trans HK8.out⟩
          by_cases hsn : (100 : Int) < (sn : Int)
          · go_wp2
            go_ret
            exact ⟨rfl, HKB.out.trans HK8.out⟩
          have HNB : Hid (nb ≤ 100) := by show nb ≤ 100; omega
          have hci := (Sm.I_ok HSO.out).1
          have hfi := fits_I HSO.out
          have hfa := fits_A HSO.out
          have has := A_S HSO.out
          have HCI1 := Lib.hid (fun W => ints_ ⟨sK, sbi, sB, sle, sn, sS, sst⟩ As cs W HSO.out)
          have HCA := Lib.hid (fun W => arrays_ ⟨sK, sbi, sB, sle, sn, sS, sst⟩ As cs W HSO.out)
          obtain ⟨dI, hdI⟩ : ∃ d, (⟨sK, sbi, sB, sle, sn, sS, sst⟩ : Sm).I = d := ⟨_, rfl⟩
          obtain ⟨dA, hdA⟩ : ∃ d, (⟨sK, sbi, sB, sle, sn, sS, sst⟩ : Sm).A = d := ⟨_, rfl⟩
          rw [hdI] at hci hfi HCI1
          rw [hdA] at hfa has HCA
          have HD : Hid (∀ q, deed fv n2 ⟨way, N, wh, Ab, nb, cb, arr, bs⟩ q = if arr = true then pArr dA bs q else pInt dI (numOf N wh dI) q) := fun q => by rw [HDE.out, hdI, hdA]
          have HQI := Lib.hid (fun (A : Option Addr) (n c : Nat) (W1 : World) (k : Keeps (fun _ => False) wb W1) (hL : Ents W1 A n dI.L) (hE : ∀ b o, A = some ⟨b, o, none⟩ → wb.heap.size ≤ b) => HQD.out.int (d := dI) (c := c) (x := numOf N wh dI) k HT1.out (by have := HNN.out; omega) (numOf_wf hci HAO.out.num) hL hfi (fun _ => hE))
          have HQA := Lib.hid (fun (A : Option Addr) (n c : Nat) (W1 : World) (k : Keeps (fun _ => False) wb W1) (hL : Ents W1 A n dA.d.L) (hE : ∀ b o, A = some ⟨b, o, none⟩ → wb.heap.size ≤ b) (hl : Lies W1 Ab bs) => HQD.out.arr (d := dA) (c := c) (A2 := Ab) (bs := bs) (m := nb) (c2 := cb) k HT1.out (by have := HNN.out; omega) hL hfa (fun _ => hE) has HAO.out.len HNB.out HAO.out.cap hl HAO.out.byte (fun h b o e => Nat.lt_of_lt_of_le (HLOW.out h b o e) HS1.out))
          have HCN := Lib.hid (fun (A : Option Addr) (n c : Nat) (W1 : World) (hL : Ents W1 A n dI.L) => number_ way N wh Ab nb cb arr A n c dI W1 HAO.out.num HAO.out.wh hci hL)
          unfold Sm.v MadeI at HCI1
          unfold Sm.v MadeA at HCA
          unfold actv at HCN
          have HCI2 := HCI1
          clear hci hfi hfa has hdI hdA HDE
          obtain ⟨u, hu⟩ : ∃ u, numOf N wh dI = u := ⟨_, rfl⟩
          rw [hu] at HQI HCN HD
          clear hu
          cases arr with
          | true =>
            obtain ⟨⟨e9, p9⟩, hp9⟩ : ∃ x, pArr dA bs p = x := ⟨_, rfl⟩
            rw [hp9] at HQA
            have HD9 : Hid (deed fv n2 ⟨way, N, wh, Ab, nb, cb, true, bs⟩ p = (e9, p9)) := by show _ = _; rw [HD.out, if_pos rfl, hp9]
            clear hp9 HD HCN HCI1 HCI2 HQI
            go_upto_region 21 with fail
            go_region_held3 (fun w' => w'.cell? ⟨gs, 0, none⟩ = some (.int .u8 sK) ∧ w'.cell? ⟨gs, 1, none⟩ = some (.int .u8 sbi) ∧ w'.cell? ⟨gs, 2, none⟩ = some (.int .u16 sB) ∧ w'.cell? ⟨gs, 3, none⟩ = some (.int .i16 sle) ∧ w'.cell? ⟨gs, 4, none⟩ = some (.slice As sn cs) ∧ w'.cell? ⟨gs, 5, none⟩ = some (.int .u8 sS) ∧ w'.cell? ⟨gs, 6, none⟩ = some (.bool sst) ∧ w'.cell? ⟨ga, 0, none⟩ = some (.int .u8 way) ∧ w'.cell? ⟨ga, 1, none⟩ = some (.int .i64 N) ∧ w'.cell? ⟨ga, 2, none⟩ = some (.int .u8 wh) ∧ w'.cell? ⟨ga, 3, none⟩ = some (.slice Ab nb cb) ∧ w'.cell? ⟨ga, 4, none⟩ = some (.bool true)) (go_keep)
              (first
                | (have H := HCA; go_at_call 11; refine (H.out _).mono ?_; rintro r w8 ⟨A8, n8, c8, rfl, hL8, hE8, hk8'⟩; have hk8 : Keeps (fun _ => False) W w8 := hk8'.of_drew; obtain ⟨x0_8, x1_8, x2_8, x3_8, x4_8, x5_8, x6_8, y0_8, y1_8, y2_8, y3_8, y4_8⟩ := HG.out w8 hk8; have HKW := Lib.hid hk8; have HK9 := Lib.hid (HK8.out.trans hk8); have HL8 := Lib.hid hL8; (have HE8 : Hid (∀ b o, A8 = some ⟨b, o, none⟩ → wb.heap.size ≤ b) := fun b o e => Nat.le_trans HK8.out.size (hE8 b o e)); clear hk8 hk8' hL8 hE8 HCA)
                | (have H := HQA; go_at_call 10; refine (H.out _ _ _ _ HK9.out HL8.out HE8.out (HAO.out.lies.keeps HK9.out fun _ _ _ => id)).mono ?_; rintro r w9 ⟨rfl, hm9, hf9⟩; obtain ⟨x0_9, x1_9, x2_9, x3_9, x4_9, x5_9, x6_9, y0_9, y1_9, y2_9, y3_9, y4_9⟩ := HGF.out w9 _ HKW.out hf9; have HM9 := Lib.hid hm9; clear hm9 hf9 HQA))
            by_cases h0 : e9 = 0
            · subst h0
              go_upto_region 24 with fail
              obtain ⟨W9, hW9⟩ : ∃ W9, W9 = w9 := ⟨_, rfl⟩
              have HQ10 := Lib.hid (HM9.out.more ((Keeps.refl (fun _ => False) w9).alloc (.cells #[.int .u8 way, .int .i64 N, .int .u8 wh, .slice Ab nb cb, .bool true] 33)))
              have HOD : Hid ((w9.alloc (.cells #[.int .u8 way, .int .i64 N, .int .u8 wh, .slice Ab nb cb, .bool true] 33)).ownsRow w1.heap.size 33 5 (.slice Ad nd cd) nd (acv ds)) := by
                obtain ⟨F, h⟩ := HQ10.out.rows
                exact h.done
              have HNW : Hid (∀ t x, (Ac.v ⟨way, N, wh, Ab, nb, cb, true, bs⟩).toList[t]? = some x → (w9.alloc (.cells #[.int .u8 way, .int .i64 N, .int .u8 wh, .slice Ab nb cb, .bool true] 33)).cell? ((⟨w9.heap.size, 0, none⟩ : Addr).add t) = some x) := by
                intro t x hx
                rw [add_none, Nat.zero_add, (Blk.new w9 33 #[.int .u8 way, .int .i64 N, .int .u8 wh, .slice Ab nb cb, .bool true]).cell, ← hx]
                simp [Ac.v, actv]
              have HSZ : Hid (w1.heap.size ≤ (w9.alloc (.cells #[.int .u8 way, .int .i64 N, .int .u8 wh, .slice Ab nb cb, .bool true] 33)).heap.size) := HQ10.out.keeps.size
              have HND : Hid (nd ≤ 60) := by show nd ≤ 60; have := HPL.out.2.2.2.1; have := HNN.out; omega
              clear hW9
              go_wp2_with (
                at_builtin
                refine wpList_appA rfl (.tmp 91) (.tmp 93) rfl w1.heap.size nd 1 1 (.slice Ad nd cd) (acv ds) (Ac.v ⟨way, N, wh, Ab, nb, cb, true, bs⟩).toList ⟨w9.heap.size, 0, none⟩ rfl HOD.out rfl rfl HNW.out (ac_one _) (by have := HND.out; omega) HSZ.out ?_
                intro v12 w12 ho12 hg12 hat12
                obtain ⟨Ad', cd', rfl, hq12⟩ := HQ10.out.app ho12 hg12 hat12
                have HQ12 := Lib.hid hq12
                clear ho12 hg12 hat12 hq12)
              have hrun : runD fv n2 (ds ++ [⟨way, N, wh, Ab, nb, cb, true, bs⟩]) = p9 := by rw [runD_snoc, HPP.out, HD9.out]
              have hpl := HPL.out.put (a := ⟨way, N, wh, Ab, nb, cb, true, bs⟩) (by rw [HPP.out, HD9.out]) hlt HFA.out (by have := HAO.out.len; have := HNB.out; simp only at *; omega) HAO.out.byte (by rw [HWA.out]; exact A_S HSO.out)
              exact ⟨⟨i + 1, Ad', nd + 1, cd', ds ++ [⟨way, N, wh, Ab, nb, cb, true, bs⟩], by go_num, rfl, by omega, Lib.hid ⟨by rw [hrun]; exact HQ12.out, hpl⟩⟩, by simp [intOf]; omega⟩
            · have h0e : (e9 == 0) = false := by simpa using h0
              have hrun : p9 = runD fv n2 ds := by
                have := deed_same (f := fv) (n := n2) (a := ⟨way, N, wh, Ab, nb, cb, true, bs⟩) (p := p) (by rw [HD9.out]; exact h0)
                rw [HD9.out] at this
                rw [HPP.out]
                exact this
              subst hrun
              go_wp2
              exact ⟨⟨i + 1, Ad, nd, cd, ds, by go_num, rfl, by omega, Lib.hid ⟨HM9.out, HPL.out.skip⟩⟩, by simp [intOf]; omega⟩
          | false =>
            obtain ⟨⟨e9, p9⟩, hp9⟩ : ∃ x, pInt dI u p = x := ⟨_, rfl⟩
            rw [hp9] at HQI
            have HD9 : Hid (deed fv n2 ⟨way, N, wh, Ab, nb, cb, false, bs⟩ p = (e9, p9)) := by show _ = _; rw [HD.out, if_neg (by decide), hp9]
            clear hp9 HD HCA HQA
            go_upto_region 22 with fail
            go_region_held3 (fun w' => w'.cell? ⟨gs, 0, none⟩ = some (.int .u8 sK) ∧ w'.cell? ⟨gs, 1, none⟩ = some (.int .u8 sbi) ∧ w'.cell? ⟨gs, 2, none⟩ = some (.int .u16 sB) ∧ w'.cell? ⟨gs, 3, none⟩ = some (.int .i16 sle) ∧ w'.cell? ⟨gs, 4, none⟩ = some (.slice As sn cs) ∧ w'.cell? ⟨gs, 5, none⟩ = some (.int .u8 sS) ∧ w'.cell? ⟨gs, 6, none⟩ = some (.bool sst) ∧ w'.cell? ⟨ga, 0, none⟩ = some (.int .u8 way) ∧ w'.cell? ⟨ga, 1, none⟩ = some (.int .i64 N) ∧ w'.cell? ⟨ga, 2, none⟩ = some (.int .u8 wh) ∧ w'.cell? ⟨ga, 3, none⟩ = some (.slice Ab nb cb) ∧ w'.cell? ⟨ga, 4, none⟩ = some (.bool false)) (go_keep)
              (first
                | (have H := HCI1; go_at_call 13; refine (H.out _).mono ?_; rintro r w8 ⟨A8, n8, c8, rfl, hL8, hE8, hk8'⟩; have hk8 : Keeps (fun _ => False) W w8 := hk8'.of_drew; obtain ⟨x0_8, x1_8, x2_8, x3_8, x4_8, x5_8, x6_8, y0_8, y1_8, y2_8, y3_8, y4_8⟩ := HG.out w8 hk8; have HK9 := Lib.hid hk8; have HL8 := Lib.hid hL8; (have HE8 : Hid (∀ b o, A8 = some ⟨b, o, none⟩ → wb.heap.size ≤ b) := fun b o e => Nat.le_trans HK8.out.size (hE8 b o e)); clear hk8 hk8' hL8 hE8 HCI1)
                | (have H := HCI2; have KK := HK9; go_at_call 13; refine (H.out _).mono ?_; rintro r w9 ⟨A9, n9, c9, rfl, hL9, hE9, hk9'⟩; have hk9 : Keeps (fun _ => False) W w9 := KK.out.trans hk9'; obtain ⟨x0_9, x1_9, x2_9, x3_9, x4_9, x5_9, x6_9, y0_9, y1_9, y2_9, y3_9, y4_9⟩ := HG.out w9 hk9; have HK10 := Lib.hid hk9; have HL9 := Lib.hid hL9; have HL8b := Lib.hid (HL8.out.more hk9'); clear hk9 hk9' hL9 hE9 HCI2 HL8)
                | (have H := HCN; go_at_call 14; refine (H.out _ _ _ _ HL9.out).mono ?_; rintro r w10 ⟨rfl, hk10'⟩; have hk10 : Keeps (fun _ => False) W w10 := HK10.out.trans hk10'; obtain ⟨x0_10, x1_10, x2_10, x3_10, x4_10, x5_10, x6_10, y0_10, y1_10, y2_10, y3_10, y4_10⟩ := HG.out w10 hk10; have HKW := Lib.hid hk10; have HK11 := Lib.hid (HK8.out.trans hk10); have HL10 := Lib.hid (HL8b.out.more hk10'); clear hk10 hk10' HCN)
                | (have H := HQI; go_at_call 15; refine (H.out _ _ _ _ HK11.out HL10.out HE8.out).mono ?_; rintro r w11 ⟨rfl, hm11, hf11⟩; obtain ⟨x0_11, x1_11, x2_11, x3_11, x4_11, x5_11, x6_11, y0_11, y1_11, y2_11, y3_11, y4_11⟩ := HGF.out w11 _ HKW.out hf11; have HM9 := Lib.hid hm11; clear hm11 hf11 HQI))
            by_cases h0 : e9 = 0
            · subst h0
              go_upto_region 24 with fail
              obtain ⟨W9, hW9⟩ : ∃ W9, W9 = w11 := ⟨_, rfl⟩
              have HQ10 := Lib.hid (HM9.out.more ((Keeps.refl (fun _ => False) w11).alloc (.cells #[.int .u8 way, .int .i64 N, .int .u8 wh, .slice Ab nb cb, .bool false] 33)))
              have HOD : Hid ((w11.alloc (.cells #[.int .u8 way, .int .i64 N, .int .u8 wh, .slice Ab nb cb, .bool false] 33)).ownsRow w1.heap.size 33 5 (.slice Ad nd cd) nd (acv ds)) := by
                obtain ⟨F, h⟩ := HQ10.out.rows
                exact h.done
              have HNW : Hid (∀ t x, (Ac.v ⟨way, N, wh, Ab, nb, cb, false, bs⟩).toList[t]? = some x → (w11.alloc (.cells #[.int .u8 way, .int .i64 N, .int .u8 wh, .slice Ab nb cb, .bool false] 33)).cell? ((⟨w11.heap.size, 0, none⟩ : Addr).add t) = some x) := by
                intro t x hx
                rw [add_none, Nat.zero_add, (Blk.new w11 33 #[.int .u8 way, .int .i64 N, .int .u8 wh, .slice Ab nb cb, .bool false]).cell, ← hx]
                simp [Ac.v, actv]
              have HSZ : Hid (w1.heap.size ≤ (w11.alloc (.cells #[.int .u8 way, .int .i64 N, .int .u8 wh, .slice Ab nb cb, .bool false] 33)).heap.size) := HQ10.out.keeps.size
              have HND : Hid (nd ≤ 60) := by show nd ≤ 60; have := HPL.out.2.2.2.1; have := HNN.out; omega
              clear hW9
              go_wp2_with (
                at_builtin
                refine wpList_appA rfl (.tmp 91) (.tmp 93) rfl w1.heap.size nd 1 1 (.slice Ad nd cd) (acv ds) (Ac.v ⟨way, N, wh, Ab, nb, cb, false, bs⟩).toList ⟨w11.heap.size, 0, none⟩ rfl HOD.out rfl rfl HNW.out (ac_one _) (by have := HND.out; omega) HSZ.out ?_
                intro v12 w12 ho12 hg12 hat12
                obtain ⟨Ad', cd', rfl, hq12⟩ := HQ10.out.app ho12 hg12 hat12
                have HQ12 := Lib.hid hq12
                clear ho12 hg12 hat12 hq12)
              have hrun : runD fv n2 (ds ++ [⟨way, N, wh, Ab, nb, cb, false, bs⟩]) = p9 := by rw [runD_snoc, HPP.out, HD9.out]
              have hpl := HPL.out.put (a := ⟨way, N, wh, Ab, nb, cb, false, bs⟩) (by rw [HPP.out, HD9.out]) hlt HFA.out (by have := HAO.out.len; have := HNB.out; simp only at *; omega) HAO.out.byte (by rw [HWA.out]; exact A_S HSO.out)
              exact ⟨⟨i + 1, Ad', nd + 1, cd', ds ++ [⟨way, N, wh, Ab, nb, cb, false, bs⟩], by go_num, rfl, by omega, Lib.hid ⟨by rw [hrun]; exact HQ12.out, hpl⟩⟩, by simp [intOf]; omega⟩
            · have h0e : (e9 == 0) = false := by simpa using h0
              have hrun : p9 = runD fv n2 ds := by
                have := deed_same (f := fv) (n := n2) (a := ⟨way, N, wh, Ab, nb, cb, false, bs⟩) (p := p) (by rw [HD9.out]; exact h0)
                rw [HD9.out] at this
                rw [HPP.out]
                exact this
              subst hrun
              go_wp2
              exact ⟨⟨i + 1, Ad, nd, cd, ds, by go_num, rfl, by omega, Lib.hid ⟨HM9.out, HPL.out.skip⟩⟩, by simp [intOf]; omega⟩
        · obtain rfl : i = n1 := by omega
          obtain ⟨n2, rfl⟩ : ∃ x, x = j := ⟨_, rfl⟩
          obtain ⟨⟨⟨F, G, N, hq, hc, hrows, hN⟩, hrl, hbl⟩, hpl⟩ := HQ.out
          obtain ⟨p, hp⟩ : ∃ p, runD fv n2 ds = p := ⟨_, rfl⟩
          rw [hp] at hq hc hrl hbl
          have HRW := Lib.hid (row_ w1.heap.size q F p.1 G N wr hq (by have := HNN.out; omega))
          have HBK := Lib.hid (fun W (k : Keeps (fun _ => False) wr W) => blks_ w1.heap.size q F p.1 G N W (hq.more k))
          rw [hc] at HBK
          have HV0 : Hid (∀ i, 60001 ≤ i → p.2 i = none) := by show ∀ i, 60001 ≤ i → p.2 i = none; rw [← hc]; exact ql_far hq
          have HVL : Hid (∀ i l, p.2 i = some l → l.length ≤ 1000000 ∧ ∀ x ∈ l, 0 ≤ x ∧ x < 256) := fun i l hl => by
            refine ⟨?_, ?_⟩
            · have h1 := hbl i
              unfold hadP at h1
              rw [hl] at h1
              simp only [Option.getD_some] at h1
              have := HNN.out
              omega
            · have h1 := hpl.2.1
              rw [hp] at h1
              exact h1 i l hl
          have HROW := Lib.hid hrows
          have HPL := Lib.hid hpl
          have HRL : Hid (p.1.length ≤ 6000) := by show _ ≤ _; have := HNN.out; omega
          have HPP := Lib.hid hp
          clear hq hc hrows hN hrl hbl hpl hp HQ hi hlt
          go_wp2_with fail
          refine HRW.out.mono ?_
          rintro r w2 ⟨Ar, cr, zs, nr, hzn, rfl, hpk, hzb, hor, hk2⟩
          have HZN := Lib.hid hzn
          have HPK := Lib.hid hpk
          have HZB := Lib.hid hzb
          have HOR := Lib.hid hor
          have HK2 := Lib.hid hk2
          clear hzn hpk hzb hor hk2 HRW
          go_wp2_with fail
          refine (HBK.out _ HK2.out).mono ?_
          rintro r w3 ⟨mb, ga, gc, rfl, hm3, hl3, hk3⟩
          have HK3 := Lib.hid (HK2.out.trans hk3)
          have HNW := Lib.hid (new_m Ar nr cr zs mb p.2 ga gc w3 HZN.out ((Lies.of_own HOR.out).keeps hk3 fun _ _ _ => id) (by have h1 := pack_len HPK.out; have h2 := HRL.out; have h3 := HZN.out; rw [List.length_map] at h1; omega) HZB.out hm3 (fun i l hl => ⟨hl3 i l hl, HVL.out i l hl⟩) HV0.out)
          clear hm3 hl3 hk3 HBK
          go_wp2_with fail
          refine HNW.out.mono ?_
          rintro r w4 ⟨gx, Fx, rfl, hlz, hk4⟩
          have HLK0 : Hid (Lk w1 gx gw cw n2 fv fa fc Ad nd cd ds zs p.2 p0 0 w4) := by
            have hs := HROW.out.keeps.size
            have hs3 := HK3.out.size
            exact ⟨w3.heap.size, Fx, _, _, 0, hlz, atL_start zs p.2, HROW.out.anew (HK3.out.trans hk4) (fun x hx => Nat.le_trans hs3 (hlz.lt x hx).1), Nat.le_refl _, by omega⟩
          clear hlz hk4 HNW HOR HK2 HK3 HROW HV0 HVL
          go_wp2
          go_loopw [103] (fun iv wr => ∃ t : Nat, iv = .int .i64 (t : Int) ∧ t ≤ nd ∧ Hid (Lk w1 gx gw cw n2 fv fa fc Ad nd cd ds zs p.2 (runD fv n2 (ds.take t)) t wr)) (fun iv _ => nd - (intOf iv).toNat)
          case atStart => exact ⟨0, rfl, by omega, HLK0.out⟩
          case round =>
            obtain ⟨t, rfl, htn, HL⟩ := hrel
            clear HLK0
            by_cases hlt : t < nd
            · obtain ⟨wb, rfl⟩ : ∃ x, x = wr := ⟨_, rfl⟩
              obtain ⟨a, hat⟩ : ∃ a, ds[t]? = some a := ⟨_, List.getElem?_eq_getElem (by have := HPL.out.2.2.1; omega)⟩
              obtain ⟨F6, hrows⟩ := HL.out.rows
              obtain ⟨gd, rfl, hgd, hac⟩ := hrows.act hat
              obtain ⟨i0, hi0, hfi0, hbl⟩ := HPL.out.2.2.2.2 a (List.mem_of_getElem? hat)
              have hKw : Keeps (w.heap.size ≤ ·) w wb := (HK1.out.mono fun _ _ hf => hf.elim).trans (HL.out.keeps.mono fun k _ hf => Nat.le_trans HS1.out hf)
              have haok := (H1.out.keeps hKw).ok i0 hi0
              have hlow := (H1.out.ok i0 hi0).low
              rw [hfi0] at haok hlow
              have HLEN := Lib.hid hbl
              have hj0 : (0 : Int) ≤ (t : Int) := by omega
              have hj1 : (t : Int) < (nd : Int) := by omega
              have hjw : IntKind.i64.wrap ((t : Int) + 1) = (t : Int) + 1 := IntWalk.i64_in _ (by have h1 := HNN.out; have h2 := HPL.out.2.2.2.1; omega)
              have H0 := Lib.hid (HPL.out.1 t a hat)
              have HPS : Hid (Sub (runD fv n2 (ds.take (t + 1))) zs p.2) := sub_take (by rw [HPP.out]; exact sub_whole HPK.out) (t + 1)
              have HRT := Lib.hid (runD_take (f := fv) (n := n2) hat)
              rw [HRT.out] at HPS
              have HT60 : Hid (t ≤ 300) := by show t ≤ 300; have h1 := HNN.out; have h2 := HPL.out.2.2.2.1; omega
              clear hat hi0 hfi0 hbl hKw hgd
              obtain ⟨hrem, hk⟩ := wayAt_lt (a := a) (n := n2) haok.way.1 (by have := HNN.out; omega)
              obtain ⟨k, hkk⟩ : ∃ k, wayAt a n2 = k := ⟨_, rfl⟩
              rw [hkk] at hrem hk
              have hsc := fun j hj => hrows.cell (i := k) (j := j) hk hj
              have hsok := HVOK.out k hk
              obtain ⟨sm, hsm⟩ : ∃ sm, fv k = sm := ⟨_, rfl⟩
              obtain ⟨As, hAs⟩ : ∃ As, fa k = As := ⟨_, rfl⟩
              obtain ⟨cs, hcs⟩ : ∃ cs, fc k = cs := ⟨_, rfl⟩
              rw [hsm, hAs, hcs] at hsc
              rw [hsm] at hsok
              have HDE : Hid (∀ q, deed fv n2 a q = if a.arr = true then pArr sm.A a.bs q else pInt sm.I (numOf a.N a.wh sm.I) q) := fun q => by rw [deed, hkk, hsm]
              have HWA : Hid (fv (wayAt a n2) = sm) := by show _ = _; rw [hkk, hsm]
              have HGW := Lib.hid (own_ltG hrows.ways (b := gw) rfl).2
              clear hkk hsm hAs hcs hrows
              obtain ⟨way, N, wh, Ab, nb, cb, arr, bs⟩ := a
              have HAO := Lib.hid haok
              have HSO := Lib.hid hsok
              have HLOW := Lib.hid hlow
              obtain ⟨sK, sbi, sB, sle, sn, sS, sst⟩ := sm
              have hway := haok.way
              simp only at hway hrem
              have e0 := hac 0 (by omega)
              have e1 := hac 1 (by omega)
              have e2 := hac 2 (by omega)
              have e3 := hac 3 (by omega)
              have e4 := hac 4 (by omega)
              have g0 := hsc 0 (by omega)
              have g1 := hsc 1 (by omega)
              have g2 := hsc 2 (by omega)
              have g3 := hsc 3 (by omega)
              have g4 := hsc 4 (by omega)
              have g5 := hsc 5 (by omega)
              have g6 := hsc 6 (by omega)
              unfold Ac.v actv at e0 e1 e2 e3 e4
              unfold Sm.v at g0 g1 g2 g3 g4 g5 g6
              simp only [List.getElem?_toArray, List.getElem?_cons_zero, List.getElem?_cons_succ, Nat.add_zero] at e0 e1 e2 e3 e4 g0 g1 g2 g3 g4 g5 g6
              have HFAR : Hid (∀ o' : Obj, ∀ y, (wb.alloc o').cell? ⟨gw, y, none⟩ = wb.cell? ⟨gw, y, none⟩) := fun o' y => World.cell?_of_block (w := wb) (Below.heap_alloc wb o' gw HGW.out)
              have q0 := (HFAR.out (.cells #[.int .u8 way, .int .i64 N, .int .u8 wh, .slice Ab nb cb, .bool arr] 33) _).trans g0
              have q1 := (HFAR.out (.cells #[.int .u8 way, .int .i64 N, .int .u8 wh, .slice Ab nb cb, .bool arr] 33) _).trans g1
              have q2 := (HFAR.out (.cells #[.int .u8 way, .int .i64 N, .int .u8 wh, .slice Ab nb cb, .bool arr] 33) _).trans g2
              have q3 := (HFAR.out (.cells #[.int .u8 way, .int .i64 N, .int .u8 wh, .slice Ab nb cb, .bool arr] 33) _).trans g3
              have q4 := (HFAR.out (.cells #[.int .u8 way, .int .i64 N, .int .u8 wh, .slice Ab nb cb, .bool arr] 33) _).trans g4
              have q5 := (HFAR.out (.cells #[.int .u8 way, .int .i64 N, .int .u8 wh, .slice Ab nb cb, .bool arr] 33) _).trans g5
              have q6 := (HFAR.out (.cells #[.int .u8 way, .int .i64 N, .int .u8 wh, .slice Ab nb cb, .bool arr] 33) _).trans g6
              have hww : IntKind.i64.wrap way = way := IntWalk.i64_in _ (by omega)
              have hn2e : ¬ ((n2 : Int) = 0) := by have := HNN.out; omega
              have hn2f : ¬ n2 = 0 := by have := HNN.out; omega
              have hk0 : (0 : Int) ≤ (k : Int) := by omega
              have hk1 : (k : Int) < (n2 : Int) := by omega
              clear hac hsc haok hsok hlow g0 g1 g2 g3 g4 g5 g6
              go_upto_region 31 with fail
              have HB1 : Hid (Blk ((wb.alloc (.cells #[.int .u8 way, .int .i64 N, .int .u8 wh, .slice Ab nb cb, .bool arr] 33)).alloc (.cells #[.int .u8 sK, .int .u8 sbi, .int .u16 sB, .int .i16 sle, .slice As sn cs, .int .u8 sS, .bool sst] 37)) wb.heap.size 33 #[.int .u8 way, .int .i64 N, .int .u8 wh, .slice Ab nb cb, .bool arr]) := Lib.hid ((Blk.new wb 33 _).keeps ((Keeps.refl (fun _ => False) _).alloc _) id)
              have HB2 : Hid (Blk ((wb.alloc (.cells #[.int .u8 way, .int .i64 N, .int .u8 wh, .slice Ab nb cb, .bool arr] 33)).alloc (.cells #[.int .u8 sK, .int .u8 sbi, .int .u16 sB, .int .i16 sle, .slice As sn cs, .int .u8 sS, .bool sst] 37)) (wb.heap.size + 1) 37 #[.int .u8 sK, .int .u8 sbi, .int .u16 sB, .int .i16 sle, .slice As sn cs, .int .u8 sS, .bool sst]) := by
                have := Blk.new (wb.alloc (.cells #[.int .u8 way, .int .i64 N, .int .u8 wh, .slice Ab nb cb, .bool arr] 33)) 37 #[.int .u8 sK, .int .u8 sbi, .int .u16 sB, .int .i16 sle, .slice As sn cs, .int .u8 sS, .bool sst]
                have e1 : (wb.alloc (.cells #[.int .u8 way, .int .i64 N, .int .u8 wh, .slice Ab nb cb, .bool arr] 33)).heap.size = wb.heap.size + 1 := by simp
                rw [e1] at this
                exact this
              have HK8 : Hid (Keeps (fun _ => False) wb ((wb.alloc (.cells #[.int .u8 way, .int .i64 N, .int .u8 wh, .slice Ab nb cb, .bool arr] 33)).alloc (.cells #[.int .u8 sK, .int .u8 sbi, .int .u16 sB, .int .i16 sle, .slice As sn cs, .int .u8 sS, .bool sst] 37))) := Lib.hid (((Keeps.refl _ _).alloc _).alloc _)
              generalize (wb.alloc (.cells #[.int .u8 way, .int .i64 N, .int .u8 wh, .slice Ab nb cb, .bool arr] 33)).alloc (.cells #[.int .u8 sK, .int .u8 sbi, .int .u16 sB, .int .i16 sle, .slice As sn cs, .int .u8 sS, .bool sst] 37) = W at HB1 HB2 HK8 ⊢
              clear HFAR q0 q1 q2 q3 q4 q5 q6 e0 e1 e2 e3 e4
              obtain ⟨ga, hga⟩ : ∃ g, wb.heap.size = g := ⟨_, rfl⟩
              obtain ⟨gs, hgs⟩ : ∃ g, ga + 1 = g := ⟨_, rfl⟩
              rw [hga, hgs] at HB2 ⊢
              rw [hga] at HB1
              have HGA : Hid (wb.heap.size ≤ ga ∧ wb.heap.size ≤ gs ∧ ga < W.heap.size ∧ gs < W.heap.size) := ⟨by omega, by omega, HB1.out.lt, HB2.out.lt⟩
              clear hga hgs
              have HG : Hid (∀ W1, Keeps (fun _ => False) W W1 → (W1.cell? ⟨gs, 0, none⟩ = some (.int .u8 sK) ∧ W1.cell? ⟨gs, 1, none⟩ = some (.int .u8 sbi) ∧ W1.cell? ⟨gs, 2, none⟩ = some (.int .u16 sB) ∧ W1.cell? ⟨gs, 3, none⟩ = some (.int .i16 sle) ∧ W1.cell? ⟨gs, 4, none⟩ = some (.slice As sn cs) ∧ W1.cell? ⟨gs, 5, none⟩ = some (.int .u8 sS) ∧ W1.cell? ⟨gs, 6, none⟩ = some (.bool sst) ∧ W1.cell? ⟨ga, 0, none⟩ = some (.int .u8 way) ∧ W1.cell? ⟨ga, 1, none⟩ = some (.int .i64 N) ∧ W1.cell? ⟨ga, 2, none⟩ = some (.int .u8 wh) ∧ W1.cell? ⟨ga, 3, none⟩ = some (.slice Ab nb cb) ∧ W1.cell? ⟨ga, 4, none⟩ = some (.bool arr))) := by
                intro W1 k
                have h0 := HB2.out.keeps k id
                have h1 := HB1.out.keeps k id
                exact ⟨h0.cell 0, h0.cell 1, h0.cell 2, h0.cell 3, h0.cell 4, h0.cell 5, h0.cell 6, h1.cell 0, h1.cell 1, h1.cell 2, h1.cell 3, h1.cell 4⟩
              have HGF : Hid (∀ (W2 W1 : World), Keeps (fun _ => False) W W1 → (∀ g, wb.heap.size ≤ g → g < W1.heap.size → ∀ i, W2.cell? ⟨g, i, none⟩ = W1.cell? ⟨g, i, none⟩) → (W2.cell? ⟨gs, 0, none⟩ = some (.int .u8 sK) ∧ W2.cell? ⟨gs, 1, none⟩ = some (.int .u8 sbi) ∧ W2.cell? ⟨gs, 2, none⟩ = some (.int .u16 sB) ∧ W2.cell? ⟨gs, 3, none⟩ = some (.int .i16 sle) ∧ W2.cell? ⟨gs, 4, none⟩ = some (.slice As sn cs) ∧ W2.cell? ⟨gs, 5, none⟩ = some (.int .u8 sS) ∧ W2.cell? ⟨gs, 6, none⟩ = some (.bool sst) ∧ W2.cell? ⟨ga, 0, none⟩ = some (.int .u8 way) ∧ W2.cell? ⟨ga, 1, none⟩ = some (.int .i64 N) ∧ W2.cell? ⟨ga, 2, none⟩ = some (.int .u8 wh) ∧ W2.cell? ⟨ga, 3, none⟩ = some (.slice Ab nb cb) ∧ W2.cell? ⟨ga, 4, none⟩ = some (.bool arr))) := by
                intro W2 W1 k hf
                obtain ⟨q1, q2, q3, q4⟩ := HGA.out
                have ea := hf ga q1 (Nat.lt_of_lt_of_le q3 k.size)
                have es := hf gs q2 (Nat.lt_of_lt_of_le q4 k.size)
                rw [es 0, es 1, es 2, es 3, es 4, es 5, es 6, ea 0, ea 1, ea 2, ea 3, ea 4]
                exact HG.out W1 k
              have HGX : Hid (∀ W2, Keeps (fun x => w1.heap.size ≤ x ∧ x < wb.heap.size) W W2 → (W2.cell? ⟨gs, 0, none⟩ = some (.int .u8 sK) ∧ W2.cell? ⟨gs, 1, none⟩ = some (.int .u8 sbi) ∧ W2.cell? ⟨gs, 2, none⟩ = some (.int .u16 sB) ∧ W2.cell? ⟨gs, 3, none⟩ = some (.int .i16 sle) ∧ W2.cell? ⟨gs, 4, none⟩ = some (.slice As sn cs) ∧ W2.cell? ⟨gs, 5, none⟩ = some (.int .u8 sS) ∧ W2.cell? ⟨gs, 6, none⟩ = some (.bool sst) ∧ W2.cell? ⟨ga, 0, none⟩ = some (.int .u8 way) ∧ W2.cell? ⟨ga, 1, none⟩ = some (.int .i64 N) ∧ W2.cell? ⟨ga, 2, none⟩ = some (.int .u8 wh) ∧ W2.cell? ⟨ga, 3, none⟩ = some (.slice Ab nb cb) ∧ W2.cell? ⟨ga, 4, none⟩ = some (.bool arr))) := by
                intro W2 k
                obtain ⟨q1, q2, q3, q4⟩ := HGA.out
                have h0 := HB2.out.keeps k (fun h => by omega)
                have h1 := HB1.out.keeps k (fun h => by omega)
                exact ⟨h0.cell 0, h0.cell 1, h0.cell 2, h0.cell 3, h0.cell 4, h0.cell 5, h0.cell 6, h1.cell 0, h1.cell 1, h1.cell 2, h1.cell 3, h1.cell 4⟩
              obtain ⟨x0, x1, x2, x3, x4, x5, x6, y0, y1, y2, y3, y4⟩ := HG.out W (Keeps.refl _ _)
              have hci := (Sm.I_ok HSO.out).1
              have hfi := fits_I HSO.out
              have hfa := fits_A HSO.out
              have has := A_S HSO.out
              have HCI1 := Lib.hid (fun W => ints_ ⟨sK, sbi, sB, sle, sn, sS, sst⟩ As cs W HSO.out)
              have HCA := Lib.hid (fun W => arrays_ ⟨sK, sbi, sB, sle, sn, sS, sst⟩ As cs W HSO.out)
              obtain ⟨dI, hdI⟩ : ∃ d, (⟨sK, sbi, sB, sle, sn, sS, sst⟩ : Sm).I = d := ⟨_, rfl⟩
              obtain ⟨dA, hdA⟩ : ∃ d, (⟨sK, sbi, sB, sle, sn, sS, sst⟩ : Sm).A = d := ⟨_, rfl⟩
              rw [hdI] at hci hfi HCI1
              rw [hdA] at hfa has HCA
              have HD : Hid (∀ q, deed fv n2 ⟨way, N, wh, Ab, nb, cb, arr, bs⟩ q = if arr = true then pArr dA bs q else pInt dI (numOf N wh dI) q) := fun q => by rw [HDE.out, hdI, hdA]
              have HCN := Lib.hid (fun (A : Option Addr) (n c : Nat) (W1 : World) (hL : Ents W1 A n dI.L) => number_ way N wh Ab nb cb arr A n c dI W1 HAO.out.num HAO.out.wh hci hL)
              unfold Sm.v MadeI at HCI1
              unfold Sm.v MadeA at HCA
              unfold actv at HCN
              have HCI2 := HCI1
              obtain ⟨u, hu⟩ : ∃ u, numOf N wh dI = u := ⟨_, rfl⟩
              rw [hu] at HCN HD
              obtain ⟨pt, hpt⟩ : ∃ x, runD fv n2 (ds.take t) = x := ⟨_, rfl⟩
              rw [hpt] at H0 HPS HRT HL
              cases arr with
              | true =>
                rw [HD.out, if_pos rfl] at H0 HPS HRT
                have HLA := Lib.hid (fun (A : Option Addr) (n c : Nat) (W1 : World) (k : Keeps (fun _ => False) wb W1) (hL : Ents W1 A n dA.d.L) (hE : ∀ b o, A = some ⟨b, o, none⟩ → wb.heap.size ≤ b) => HL.out.arr (c := c) (d := dA) (bs := bs) k HT1.out HT60.out hL hfa (fun _ => hE) has HLEN.out H0.out HPS.out)
                have HCV : Hid (∀ w', Keeps (fun x => w1.heap.size ≤ x ∧ x < wb.heap.size) W w' → (convert 29 9 (.slice Ab nb cb)).run Tryz.prog w' = .ok (.string (strOfNums bs)) w') := fun w' k => (by
                  refine Lies.str_n (P := Tryz.prog) ?_ nb HAO.out.len 29 9 5 cb Tryz.underlying29 Tryz.underlying5 Tryz.underlying9
                  by_cases hb0 : bs = []
                  · exact .inl hb0
                  · exact (HAO.out.lies.keeps HK8.out fun _ _ _ => id).keeps k fun b o e h => by have := HLOW.out hb0 b o e; have := HS1.out; omega)
                clear hci hfi hfa has hdI hdA HDE hu hpt HD HCN HCI1 HCI2
                go_upto_region 32 with fail
                refine wp_region_noPanic ?_
                refine wp_region_held_drew (S := fun w' => Keeps (fun x => w1.heap.size ≤ x ∧ x < wb.heap.size) W w') (by kernel_rfl) (((Keeps.refl (fun _ => False) _).drewN 1).mono fun _ _ hf => hf.elim) (fun hHeld => ?_)
                refine wpAnyH_take (i := 0) (v := ?vz0x1) rfl (by kernel_rfl) (by kernel_rfl) (by kernel_rfl) (fun _ _ _ h => h) (Or.inl ⟨by rfl, ?yz0x1⟩) hHeld ?rz0x1
                case yz0x1 => (intro w' hSw; go_simp; try with_reducible rfl)
                simp only [Act.put, List.getElem_toArray, List.getElem_cons_succ, List.getElem_cons_zero, List.setIfInBounds_toArray, List.set_cons_zero, List.set_cons_succ]
                refine wpAnyH_take (i := 1) (v := ?vz1x2) rfl (by kernel_rfl) (by kernel_rfl) (by kernel_rfl) (fun _ _ _ h => h) (Or.inl ⟨by rfl, ?yz1x2⟩) hHeld ?rz1x2
                case yz1x2 => (intro w' hSw; obtain ⟨x0, x1, x2, x3, x4, x5, x6, y0, y1, y2, y3, y4⟩ := HGX.out w' hSw; go_simp; try with_reducible rfl)
                simp only [Act.put, List.getElem_toArray, List.getElem_cons_succ, List.getElem_cons_zero, List.setIfInBounds_toArray, List.set_cons_zero, List.set_cons_succ]
                refine wpAnyH_take (i := 5) (v := ?vz5x3) rfl (by kernel_rfl) (by kernel_rfl) (by kernel_rfl) (fun _ _ _ h => h) (Or.inl ⟨by rfl, ?yz5x3⟩) hHeld ?rz5x3
                case yz5x3 => (intro w' hSw; go_simp; try with_reducible rfl)
                simp only [Act.put, List.getElem_toArray, List.getElem_cons_succ, List.getElem_cons_zero, List.setIfInBounds_toArray, List.set_cons_zero, List.set_cons_succ]
                refine wpAnyH_take (i := 6) (v := ?vz6x4) rfl (by kernel_rfl) (by kernel_rfl) (by kernel_rfl) (fun _ _ _ h => h) (Or.inl ⟨by rfl, ?yz6x4⟩) hHeld ?rz6x4
                case yz6x4 => (intro w' hSw; obtain ⟨x0, x1, x2, x3, x4, x5, x6, y0, y1, y2, y3, y4⟩ := HGX.out w' hSw; go_simp; try with_reducible rfl)
                simp only [Act.put, List.getElem_toArray, List.getElem_cons_succ, List.getElem_cons_zero, List.setIfInBounds_toArray, List.set_cons_zero, List.set_cons_succ]
                refine wpAnyH_take (i := 7) (v := ?vz7x5) rfl (by kernel_rfl) (by kernel_rfl) (by kernel_rfl) (fun _ _ _ h => h) (Or.inl ⟨by rfl, ?yz7x5⟩) hHeld ?rz7x5
                case yz7x5 => (intro w' hSw; have hcv := HCV.out w' hSw; go_simp; try with_reducible rfl)
                simp only [Act.put, List.getElem_toArray, List.getElem_cons_succ, List.getElem_cons_zero, List.setIfInBounds_toArray, List.set_cons_zero, List.set_cons_succ]
                refine wpAnyH_ready (rs := [2]) (by kernel_rfl) (by simp) ?_
                refine AllReadyH.cons rfl (fun KR hK => ?_) AllReadyH.nil
                go_simp
                refine (HCA.out _).mono ?_
                rintro r w8 ⟨A8, n8, c8, rfl, hL8, hE8, hk⟩
                have HL8 := Lib.hid hL8
                have HE8 : Hid (∀ b o, A8 = some ⟨b, o, none⟩ → wb.heap.size ≤ b) := fun b o e => Nat.le_trans (Nat.le_trans HK8.out.size hHeld.size) (hE8 b o e)
                have HK9 : Hid (Keeps (fun _ => False) W w8) := Lib.hid (((Keeps.refl (fun _ => False) W).drewN 1).trans hk)
                clear hL8 hE8
                dsimp only
                refine hK.out _ _ (hHeld.trans (hk.mono fun _ _ hf => hf.elim)) (fun hHeld => ?_)
                clear hK KR hk
                try simp only [Act.put, List.getElem_toArray, List.getElem_cons_succ, List.getElem_cons_zero, List.setIfInBounds_toArray, List.set_cons_zero, List.set_cons_succ]
                refine wpAnyH_ready (rs := [3]) (by kernel_rfl) (by simp) ?_
                refine AllReadyH.cons rfl (fun KR hK => ?_) AllReadyH.nil
                go_simp
                refine (HLA.out _ _ _ _ (HK8.out.trans HK9.out) HL8.out HE8.out).mono ?_
                rintro r w9 ⟨A9, n9, c9, rfl, hn9, hl9, hlk9, hk⟩
                have HLK9 := Lib.hid hlk9
                have HL9 := Lib.hid hl9
                have HN9 := Lib.hid hn9
                clear hlk9 hl9 hn9
                dsimp only
                refine hK.out _ _ (hHeld.trans hk) (fun hHeld => ?_)
                clear hK KR
                try simp only [Act.put, List.getElem_toArray, List.getElem_cons_succ, List.getElem_cons_zero, List.setIfInBounds_toArray, List.set_cons_zero, List.set_cons_succ]
                refine Ao.wpAnyH_as (S' := fun w' => Keeps (fun _ => False) w9 w') (fun w' k => hHeld.trans (k.mono fun _ _ hf => hf.elim)) _ _ _ _ ?_
                replace hHeld : Keeps (fun _ => False) w9 w9 := Keeps.refl _ _
                clear hk
                have HC9 : Hid (∀ w', Keeps (fun _ => False) w9 w' → (convert 29 9 (.slice A9 n9 c9)).run Tryz.prog w' = .ok (.string (strOfNums bs)) w') := fun w' k => (HL9.out.keeps k (fun _ _ _ => id)).str_n (P := Tryz.prog) n9 HN9.out 29 9 5 c9 Tryz.underlying29 Tryz.underlying5 Tryz.underlying9
                refine wpAnyH_take (i := 4) (v := ?vz4x6) rfl (by kernel_rfl) (by kernel_rfl) (by kernel_rfl) (fun _ _ _ h => h) (Or.inl ⟨by rfl, ?yz4x6⟩) hHeld ?rz4x6
                case yz4x6 => (intro w' hSw; have hcv := HC9.out w' hSw; go_simp; try with_reducible rfl)
                simp only [Act.put, List.getElem_toArray, List.getElem_cons_succ, List.getElem_cons_zero, List.setIfInBounds_toArray, List.set_cons_zero, List.set_cons_succ]
                refine wpAnyH_take (i := 8) (v := ?vz8x7) rfl (by kernel_rfl) (by kernel_rfl) (by kernel_rfl) (fun _ _ _ h => h) (Or.inl ⟨by rfl, ?yz8x7⟩) hHeld ?rz8x7
                case yz8x7 => (intro w' hSw; go_simp; try with_reducible rfl)
                simp only [Act.put, List.getElem_toArray, List.getElem_cons_succ, List.getElem_cons_zero, List.setIfInBounds_toArray, List.set_cons_zero, List.set_cons_succ]
                refine wpAnyH_done (by kernel_rfl) ?_ _
                clear hHeld
                refine NoPanic.normal ?_
                have HER := Lib.hid HLK9.out.err
                go_wp2_with fail
                refine HER.out.mono ?_
                rintro r wz ⟨rfl, hwz⟩
                rw [hwz]
                clear hwz wz HER
                go_wp2
                exact ⟨⟨t + 1, by go_num, by omega, by rw [HRT.out]; exact HLK9⟩, by simp [intOf]; omega⟩
              | false =>
                rw [HD.out, if_neg (by decide)] at H0 HPS HRT
                have HQW := Lib.hid (fun (A : Option Addr) (n c : Nat) (W1 : World) (k : Keeps (fun _ => False) wb W1) (hL : Ents W1 A n dI.L) (hE : ∀ b o, A = some ⟨b, o, none⟩ → wb.heap.size ≤ b) => HL.out.within (c := c) (d := dI) (x := u) k HT1.out HT60.out hL hfi (fun _ => hE) H0.out HPS.out)
                clear hci hfi hfa has hdI hdA HDE hu hpt HD HCA
                go_upto_region 34 with fail
                go_region_held3 (fun w' => w'.cell? ⟨gs, 0, none⟩ = some (.int .u8 sK) ∧ w'.cell? ⟨gs, 1, none⟩ = some (.int .u8 sbi) ∧ w'.cell? ⟨gs, 2, none⟩ = some (.int .u16 sB) ∧ w'.cell? ⟨gs, 3, none⟩ = some (.int .i16 sle) ∧ w'.cell? ⟨gs, 4, none⟩ = some (.slice As sn cs) ∧ w'.cell? ⟨gs, 5, none⟩ = some (.int .u8 sS) ∧ w'.cell? ⟨gs, 6, none⟩ = some (.bool sst) ∧ w'.cell? ⟨ga, 0, none⟩ = some (.int .u8 way) ∧ w'.cell? ⟨ga, 1, none⟩ = some (.int .i64 N) ∧ w'.cell? ⟨ga, 2, none⟩ = some (.int .u8 wh) ∧ w'.cell? ⟨ga, 3, none⟩ = some (.slice Ab nb cb) ∧ w'.cell? ⟨ga, 4, none⟩ = some (.bool false)) (go_keep)
                  (first
                    | (have H := HCI1; go_at_call 13; refine (H.out _).mono ?_; rintro r w8 ⟨A8, n8, c8, rfl, hL8, hE8, hk8'⟩; have hk8 : Keeps (fun _ => False) W w8 := hk8'.of_drew; obtain ⟨x0_8, x1_8, x2_8, x3_8, x4_8, x5_8, x6_8, y0_8, y1_8, y2_8, y3_8, y4_8⟩ := HG.out w8 hk8; have HKW8 := Lib.hid hk8; have HL8 := Lib.hid hL8; clear hk8 hk8' hL8 hE8 HCI1)
                    | (have H := HCN; go_at_call 14; refine (H.out _ _ _ _ HL8.out).mono ?_; rintro r w9 ⟨rfl, hk9'⟩; have hk9 : Keeps (fun _ => False) W w9 := HKW8.out.trans hk9'; obtain ⟨x0_9, x1_9, x2_9, x3_9, x4_9, x5_9, x6_9, y0_9, y1_9, y2_9, y3_9, y4_9⟩ := HG.out w9 hk9; have HKW9 := Lib.hid hk9; clear hk9 hk9' HCN HL8))
                go_wp2_with fail
                refine (HCI2.out _).mono ?_
                rintro r w10 ⟨A10, n10, c10, rfl, hL10, hE10, hk10⟩
                have HK11 := Lib.hid (HK8.out.trans (HKW9.out.trans hk10))
                have HL10 := Lib.hid hL10
                have HE10 : Hid (∀ b o, A10 = some ⟨b, o, none⟩ → wb.heap.size ≤ b) := fun b o e => Nat.le_trans (HK8.out.trans HKW9.out).size (hE10 b o e)
                clear hk10 hL10 hE10 HCI2
                go_wp2_with fail
                refine (HQW.out _ _ _ _ HK11.out HL10.out HE10.out).mono ?_
                rintro r w11 ⟨rfl, hlk11⟩
                have HLK11 := Lib.hid hlk11
                have HER := Lib.hid hlk11.err
                clear hlk11 HQW
                go_wp2_with fail
                refine HER.out.mono ?_
                rintro r wz ⟨rfl, hwz⟩
                rw [hwz]
                clear hwz wz HER
                go_wp2
                exact ⟨⟨t + 1, by go_num, by omega, by rw [HRT.out]; exact HLK11⟩, by simp [intOf]; omega⟩
            · obtain rfl : t = nd := by omega
              obtain ⟨B, F, s, G, N, h1, h2, h3, h4, h5⟩ := HL.out
              rw [List.take_of_length_le (by have := HPL.out.2.2.1; omega), HPP.out] at h2
              have HKE := Lib.hid (h3.all HK1.out)
              have HEN := Lib.hid (end_z wr h1)
              have HAT := Lib.hid h2
              clear h1 h2 h3 h4 h5
              go_wp2_with fail
              refine HEN.out.mono ?_
              rintro r w9 ⟨E, rfl, hE, hk9⟩
              obtain rfl : E = 0 := end_whole HPK.out HAT.out hE
              have HK9 := Lib.hid (HKE.out.trans hk9)
              clear hE hk9
              go_wp2
              go_ret
              exact ⟨rfl, HK9.out⟩
end Go.Proofs.YtgaofnmgdefdcaaGreatDoor.Lb
