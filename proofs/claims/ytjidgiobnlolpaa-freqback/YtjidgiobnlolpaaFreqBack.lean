/- The statement FreqBack (P6.2: a table as bytes, and back) holds for every input: the Go function answers true, and its arguments read as before. No conditions beyond the row's own. -/
import Derived.Test.YtjidgiobnlolpaaRows
import Derived.WalkKit
import Derived.ProofKit
import Derived.OpenShut
import Derived.ShutString
import Derived.ChangeOld
import Derived.Below
import Derived.Test.YtjidgiobnlolpaaAwake6
import Derived.Test.YtjidgiobnlolpaaFrqEq
import Derived.Test.YtjidgiobnlolpaaFrqPut
import Derived.Test.YtjidgiobnlolpaaFrqTake
import Derived.Test.YtjidgiobnlolpaaFrqTab
import Derived.Outline
import Derived.RegionTactic
namespace Go.Proofs.Ytjidgiobnlolpaa.freqBack
open Go.ChangeShapes Go.WideShapes Go.ChangeAt Go.RowKit
open Go.ChangeMaps (open_string shut_string)
open Go.Proofs.Ytjidgiobnlolpaa.Gen Go.Proofs.Ytjidgiobnlolpaa.Wr Go.Proofs.Ytjidgiobnlolpaa.It Go.Proofs.Ytjidgiobnlolpaa.Fq Go.Proofs.Ytjidgiobnlolpaa.Aw Go.Proofs.Ytjidgiobnlolpaa.Ww Go.Proofs.Ytjidgiobnlolpaa.Fb
set_option linter.unusedVariables false

theorem own : ownKnob Try.prog.godebug = none := by kernel_rfl
theorem laidOut : laidOutB Try.prog = true := by kernel_rfl

/-- WHAT THE WALK IS TOLD OF A SLICE OF INTEGERS THAT CAME IN: it is nil; or it leads to a row of 'cap' cells, the numbers 'zs' (the first 'len' are its elements, the rest its spare room), each fitting its kind. -/
def IsRow (k : IntKind) (w : World) (a : Option Addr) (len cap : Nat) (zs : List Int) : Prop :=
  (a = none ∧ len = 0 ∧ cap = 0 ∧ zs = []) ∨
  ∃ x, a = some x ∧ len ≤ cap ∧ cap ≤ maxLen ∧ zs.length = cap ∧ (∀ i, i < zs.length → w.cell? (x.add i) = some (.int k (zs.getD i 0))) ∧ ∀ n ∈ zs, (Lit.int k n).wf = true

/-- A whole row is loaded, in a region that draws its order. -/
theorem yields_row {ops : Array Oper} {S : World → Prop} {dst : Option Tmp} {ty ty' e : TypeId} {n : Nat} {x : Operand} {pos : String} {after : Array Edge} {gd : Option (Nat × Bool)} {a : Act} {g : Nat} {t : TypeId} {cs : Array Value}
    (hw : Region.wanted { dst := dst, op := .load ty x, type := ty', pos := pos, after := after, guard := gd } (yielded ops a.tmps) = true) (hS : ∀ w, S w → Blk w g t cs)
    (hu : Try.prog.underlying ty = some (.array n e)) (hi : (Try.prog.info? ty).map (·.size) = some cs.size) (hx : a.eval x = .pointer (some ⟨g, 0, none⟩)) :
    YieldsIf Try.prog ops S { dst := dst, op := .load ty x, type := ty', pos := pos, after := after, guard := gd } (.agg cs) a :=
  .inl ⟨hw, fun w hw' => by
    unfold execOp
    simp only [hx, Instr.loadAt, Instr.sureAddr, Sem.run_bind, Sem.run_pure, Result.andThen_ok, run_loadVar_row w g t ty cs (0, 0) _ (hS w hw') hu rfl hi]⟩
set_option maxRecDepth 20000 in
set_option maxHeartbeats 4000000 in
theorem walk (a0 : Option Addr) (len0 cap0 : Nat) (z0 : List Int) (a1 : Option Addr) (len1 cap1 : Nat) (z1 : List Int) (w : World) (w0 : IsRow .u8 w a0 len0 cap0 z0) (w1 : IsRow .u16 w a1 len1 cap1 z1) :
    Calls Try.prog 4 #[.slice a0 len0 cap0, .slice a1 len1 cap1] w fun e w' => e = .returned (.bool true) ∧ Below w.heap.size w w' := by
  obtain ⟨hxl, hlc, hl0, hbx⟩ := row_lies w0
  have hmo := row_more w1
  obtain ⟨xs, hxs⟩ : ∃ xs, z0.take len0 = xs := ⟨_, rfl⟩
  rw [hxs] at hxl hl0 hbx
  have HXL := Lib.hid hxl
  have HL0 := Lib.hid hl0
  have HBX := Lib.hid hbx
  have HMO := Lib.hid hmo
  clear w0 w1 hxs hxl hl0 hbx hmo hlc
  have hz3 : ∀ w, (zeroValue 27).run Try.prog w = .ok (.agg (vs zs)) w := tab_zero
  generalize hZ : vs zs = Z at hz3
  have HZS := Lib.hid hZ
  clear hZ
  by_cases h300 : 300 < len0
  · go_enter Try.func4, Try.ntmps4
    go_wp2_with (go_at_call 8; refine (awake w).mono ?_; rintro e w1 ⟨rfl, hb1⟩; have HB1 := Lib.hid hb1; clear hb1)
    go_ret
    exact ⟨rfl, HB1.out⟩
  · obtain ⟨c, hc⟩ : ∃ c, cnt xs (am z1 len1) len0 = c := ⟨_, rfl⟩
    have HCL : Hid (c.length = 256) := by show _ = _; rw [← hc]; exact cnt_len _ _ _
    have HCR : Hid (InR c) := by show InR c; rw [← hc]; exact cnt_inR _ _ (am_in HMO.out) _ (by omega)
    have HCN : Hid (∀ w1, Keeps (fun _ => False) w w1 → Calls Try.prog 9 #[.slice a0 len0 cap0, .slice a1 len1 cap1] w1 fun r w' => r = .returned (.agg (vs c)) ∧ Keeps (fun _ => False) w1 w') := by
      refine Lib.hid fun w1 hk => ?_
      rw [← hc]
      exact counts a0 len0 cap0 xs a1 len1 cap1 z1 w1 HXL.out (HL0.out.keeps hk fun _ _ _ => id) (by omega) HBX.out (HMO.out.keeps hk)
    clear hc
    obtain ⟨cs, hcs⟩ : ∃ cs, vs c = cs := ⟨_, rfl⟩
    rw [hcs] at HCN
    by_cases hs : c.sum = 0
    · have HE : Hid (¬ (InR c ∧ c.sum ≠ 0)) := fun h => h.2 hs
      have HSC : Hid (∀ w, Calls Try.prog 10 #[.agg cs] w fun r w' => r = .returned (.tuple #[.agg Z, .bool false]) ∧ Keeps (fun _ => False) w w') := by
        refine Lib.hid fun w => ?_
        rw [← hcs]
        refine (scaled c w HCL.out).mono fun r w' ⟨h1, h2⟩ => ⟨?_, h2⟩
        rw [h1, if_neg HE.out, decide_eq_false HE.out, HZS.out]
      have HZI : Hid ((Try.prog.info? 27).map (·.size) = some Z.size) := by show _ = _; rw [← HZS.out]; exact tab_size zs_len
      have HZ1 : Hid (Z.all (·.oneCell') = true) := by show _ = _; rw [← HZS.out]; exact vs_one _
      clear hs hcs HE
      go_enter Try.func4, Try.ntmps4
      go_wp2_with (first
        | (go_at_call 8; refine (awake w).mono ?_; rintro e w1 ⟨rfl, hb1⟩; have HB1 := Lib.hid hb1; clear hb1)
        | (go_at_call 9; refine (HCN.out _ (Keeps.of_below HB1.out)).mono ?_; rintro e w2 ⟨rfl, hk2⟩; have HK2 := Lib.hid hk2; clear hk2)
        | (go_at_call 10; refine (HSC.out _).mono ?_; rintro e w3 ⟨rfl, hk3⟩; have HK3 := Lib.hid hk3; clear hk3)
        | ((with_reducible refine st_row (Blk.new _ 27 Z) HZI.out rfl HZ1.out ?_ ?_ ?_); rfl; rfl))
      go_ret
      exact ⟨rfl, HB1.out.trans (((Keeps.setRow (((HK2.out.trans HK3.out)).alloc _) (.inr (HK2.out.trans HK3.out).size) _)).below HB1.out.size (fun _ h => h.elim))⟩
    · have HE : Hid (InR c ∧ c.sum ≠ 0) := Lib.hid ⟨HCR.out, hs⟩
      obtain ⟨l, hl⟩ : ∃ l, scal c = l := ⟨_, rfl⟩
      obtain ⟨hok1, hok2, hok3⟩ := scal_ok HCL.out HCR.out
      rw [hl] at hok1 hok2 hok3
      have HLL := Lib.hid hok1
      have HLF := Lib.hid hok2
      have HLS := Lib.hid hok3
      obtain ⟨v, hv⟩ : ∃ v, vs l = v := ⟨_, rfl⟩
      have HV := Lib.hid hv
      have HVI : Hid ((Try.prog.info? 27).map (·.size) = some v.size) := by show _ = _; rw [← hv]; exact tab_size hok1
      have HV1 : Hid (v.all (·.oneCell') = true) := by show _ = _; rw [← hv]; exact vs_one _
      have HZV : Hid (Z.size = v.size) := by show _ = _; rw [← hv, ← HZS.out, vs_size, vs_size, zs_len, hok1]
      have HVG : Hid (∀ j, j < 256 → v[j]? = some (.int .i64 (l.getD j 0))) := fun j hj => by rw [← HV.out]; exact vs_get (by rw [HLL.out]; exact hj)
      have HSC : Hid (∀ w, Calls Try.prog 10 #[.agg cs] w fun r w' => r = .returned (.tuple #[.agg v, .bool true]) ∧ Keeps (fun _ => False) w w') := by
        refine Lib.hid fun w => ?_
        rw [← hcs]
        refine (scaled c w HCL.out).mono fun r w' ⟨h1, h2⟩ => ⟨?_, h2⟩
        rw [h1, if_pos HE.out, decide_eq_true HE.out, hl, hv]
      clear hs hcs hl hok1 hok2 hok3 hv HE
      go_enter Try.func4, Try.ntmps4
      go_upto_region 6 with (first
        | (go_at_call 8; refine (awake w).mono ?_; rintro e w1 ⟨rfl, hb1⟩; have HB1 := Lib.hid hb1; clear hb1)
        | (go_at_call 9; refine (HCN.out _ (Keeps.of_below HB1.out)).mono ?_; rintro e w2 ⟨rfl, hk2⟩; have HK2 := Lib.hid hk2; clear hk2)
        | (go_at_call 10; refine (HSC.out _).mono ?_; rintro e w3 ⟨rfl, hk3⟩; have HK3 := Lib.hid hk3; clear hk3)
        | ((with_reducible refine st_row (Blk.new _ 27 Z) HVI.out HZV.out HV1.out ?_ ?_ ?_); rfl; rfl))
      obtain ⟨T, hT⟩ : ∃ T, w3.heap.size = T := ⟨_, rfl⟩
      generalize hW : (w3.alloc (.cells Z 27)).setRow w3.heap.size v = W
      have HBT : Hid (Blk W T 27 v) := by show Blk _ _ _ _; rw [← hW, ← hT]; exact Blk.setRow (Blk.new _ _ _) _
      have HKW : Hid (Keeps (fun _ => False) w1 W) := by show Keeps _ _ _; rw [← hW]; exact Keeps.setRow ((HK2.out.trans HK3.out).alloc _) (.inr (HK2.out.trans HK3.out).size) _
      rw [hT]
      clear hT hW HK2 HK3 HSC HCN
      have HTB : Hid (∀ w, Calls Try.prog 18 #[.agg v] w (Own w.heap.size (tabB l).length (tabB l) w)) := fun w => table l v _ w HLL.out HV.out HLF.out (by rw [HLS.out]; omega) rfl
      have HTK := Lib.hid (takeT_back HLL.out HLF.out HLS.out)
      obtain ⟨N, hN⟩ : ∃ N, (tabB l).length = N := ⟨_, rfl⟩
      have hNb : N ≤ 2565 := by rw [← hN]; exact tabB_len l
      rw [hN] at HTB
      have HNE := Lib.hid hN
      have HBY : Hid (∀ x ∈ tabB l, 0 ≤ x ∧ x < 256) := tabB_byte fun x hx => by have := HLF.out x hx; omega
      obtain ⟨sx, hsx⟩ : ∃ sx, strOfNums (tabB l) = sx := ⟨_, rfl⟩
      have HSX := Lib.hid hsx
      have HEQ : Hid (∀ w, (Op.equalIn 10000 27 (.agg v) (.agg v)).run Try.prog w = .ok true w) := fun w => run_eq 27 Try.underlying27 l l v v true HV.out HV.out HLL.out HLL.out (by simp) w
      clear hN hsx
      go_upto_region 9 with fail
      obtain ⟨g, hg⟩ : ∃ g, W.heap.size = g := ⟨_, rfl⟩
      have hw0 := new_of 40 (by decide) W
      generalize hW4 : W.alloc (.cells #[.slice none 0 0] 40) = W4 at hw0 ⊢
      have HW4 := Lib.hid hw0
      have HT4 : Hid (Blk W4 T 27 v) := by show Blk _ _ _ _; rw [← hW4]; exact HBT.out.alloc _
      have HK4 : Hid (Keeps (fun _ => False) w1 W4) := by show Keeps _ _ _; rw [← hW4]; exact HKW.out.alloc _
      have HTl : Hid (T < W.heap.size) := HBT.out.lt
      have HWs : Hid (w1.heap.size ≤ W.heap.size) := HKW.out.size
      rw [hg] at HW4 HTl HWs ⊢
      clear hg hw0 hW4 HBT HKW
      go_upto_region 10 with (first
        | (go_at_call 14
           refine (put_ok g g (.slice none 0 0) [] l v _ HW4.out (by simp) HLL.out HV.out HLF.out HLS.out).mono ?_
           rintro e w5 ⟨rfl, hh5⟩
           rw [List.nil_append] at hh5
           obtain ⟨v5, hw5, hk5⟩ := hh5
           have HW5 := Lib.hid hw5
           have HT5 := Lib.hid (HT4.out.keeps hk5 (by have := HTl.out; omega))
           have HK5 : Hid (Keeps (fun _ => False) w1 w5) := Lib.hid ⟨hk5.os.trans HK4.out.os, hk5.tape.trans HK4.out.tape, hk5.output.trans HK4.out.output, Nat.le_trans HK4.out.size hk5.size, fun b hb _ => (hk5.block b (Nat.lt_of_lt_of_le hb HK4.out.size) (by have := HWs.out; omega)).trans (HK4.out.block b hb id)⟩
           clear hw5 hk5 HW4 HT4 HK4)
        | ((with_reducible refine ld_row HT4.out Try.underlying27 HVI.out ?_ ?_); rfl))
      go_upto_region 11 with (first
        | (go_at_call 16
           refine (Ww.bytes_n g g v5 (tabB l) N _ HNE.out HW5.out).mono ?_
           rintro e w6 ⟨A6, c6, rfl, hv6, hk6⟩
           have HL6 := Lib.hid (Lies.of_own hv6)
           have HW6 := Lib.hid (HW5.out.keeps hk6 (fun _ _ h => h))
           have HT6 := Lib.hid (HT5.out.keeps hk6 id)
           have HK6 := Lib.hid (HK5.out.trans hk6)
           clear hv6 hk6 HW5 HT5 HK5)
        | (go_at_call 15
           refine (Ir.iread A6 N c6 (tabB l) _ HNE.out HL6.out (by omega) HBY.out).mono ?_
           rintro e w7 ⟨g2, rfl, hr7, hk7⟩
           have HR7 := Lib.hid hr7
           have HW7 := Lib.hid (HW6.out.keeps hk7 (fun _ _ h => h))
           have HT7 := Lib.hid (HT6.out.keeps hk7 id)
           have HK7 := Lib.hid (HK6.out.trans hk7)
           have HIt : Hid (∀ b, Its g v5 b → b < w6.heap.size) := (by
             rintro b (rfl | hb)
             · exact HW6.out.lt
             · exact (HW6.out.2.2.2.2.2.lt b hb).2)
           have HT6l := Lib.hid HT6.out.lt
           simp only [Ir.rd]
           clear hr7 hk7 HW6 HT6 HK6))
      obtain ⟨X, hX⟩ : ∃ X, w7.heap.size = X := ⟨_, rfl⟩
      obtain ⟨b2, hb2⟩ : ∃ b2, w6.heap.size = b2 := ⟨_, rfl⟩
      rw [hb2] at HR7 HIt HT6l
      have hbX := Blk.new w7 44 #[.pointer (some ⟨g2, 0, none⟩)]
      have hk8 : Keeps (fun _ => False) w7 (w7.alloc (.cells #[.pointer (some ⟨g2, 0, none⟩)] 44)) := (Keeps.refl _ _).alloc _
      generalize w7.alloc (.cells #[.pointer (some ⟨g2, 0, none⟩)] 44) = W8 at hbX hk8 ⊢
      have HR8 := Lib.hid (HR7.out.keeps hk8 (fun _ _ h => h))
      have HW8 := Lib.hid (HW7.out.keeps hk8 (fun _ _ h => h))
      have HT8 := Lib.hid (HT7.out.keeps hk8 id)
      have HK8 := Lib.hid (HK7.out.trans hk8)
      have HG2 : Hid (b2 ≤ g2 ∧ g2 < X) := Lib.hid ⟨HR7.out.1, by rw [← hX]; exact HR7.out.lt⟩
      rw [hX] at hbX ⊢
      have HX8 := Lib.hid hbX
      have hcX : W8.cell? ⟨X, 0, none⟩ = some (.pointer (some ⟨g2, 0, none⟩)) := hbX.cell 0
      have HTAK : Hid (∀ w, IsRd b2 g2 ⟨tabB l, 0, 0⟩ w → Calls Try.prog 17 #[.agg #[.pointer (some ⟨g2, 0, none⟩)]] w fun r w' => r = .returned (.agg v) ∧ IsRd b2 g2 ⟨tabB l, (tabB l).length, 0⟩ w' ∧ Keeps (· = g2) w w') := by
        refine Lib.hid fun w h => ?_
        refine (Fb.take g2 _ b2 w h).mono fun r w' ⟨h1, h2, h3⟩ => ?_
        rw [HTK.out] at h1 h2
        exact ⟨by rw [h1, HV.out], h2, h3⟩
      have HKB : Hid (w1.heap.size ≤ b2) := Lib.hid (by
        have h1 := HWs.out
        have h2 := HIt.out g (.inl rfl)
        omega)
      clear hX hb2 hbX hk8 HR7 HW7 HT7 HK7
      go_upto_region 12 with (first
        | (go_at_call 17
           refine (HTAK.out _ HR8.out).mono ?_
           rintro e w9 ⟨rfl, hr9, hk9⟩
           have HR9a := Lib.hid hr9
           have HW9a := Lib.hid (HW8.out.keeps hk9 (fun b hb e => by have := HIt.out b hb; have := HG2.out; omega))
           have HT9a := Lib.hid (HT8.out.keeps hk9 (fun e => by have := HT6l.out; have := HG2.out; omega))
           have HX9a := Lib.hid (HX8.out.keeps hk9 (fun e => by have := HG2.out; omega))
           have HK9a : Hid (Keeps (fun _ => False) w1 w9) := Lib.hid ⟨hk9.os.trans HK8.out.os, hk9.tape.trans HK8.out.tape, hk9.output.trans HK8.out.output, Nat.le_trans HK8.out.size hk9.size, fun b hb _ => (hk9.block b (Nat.lt_of_lt_of_le hb HK8.out.size) (fun e => by have := HKB.out; have := HG2.out; omega)).trans (HK8.out.block b hb id)⟩
           clear hr9 hk9 hcX HR8 HW8 HT8 HX8 HK8 HTAK)
        | ((with_reducible refine st_row (Blk.new _ 27 Z) HVI.out HZV.out HV1.out ?_ ?_ ?_); rfl; rfl))
      obtain ⟨U, hU⟩ : ∃ U, w9.heap.size = U := ⟨_, rfl⟩
      have h1 : Blk ((w9.alloc (.cells Z 27)).setRow w9.heap.size v) w9.heap.size 27 v := new_put
      have h2 : Keeps (fun _ => False) w9 ((w9.alloc (.cells Z 27)).setRow w9.heap.size v) := Keeps.put_new (Keeps.refl _ _)
      generalize (w9.alloc (.cells Z 27)).setRow w9.heap.size v = W9 at h1 h2 ⊢
      rw [hU] at h1 ⊢
      have HU9 := Lib.hid h1
      have HT9 := Lib.hid (HT9a.out.keeps h2 id)
      have HX9 := Lib.hid (HX9a.out.keeps h2 id)
      have HW9 := Lib.hid (HW9a.out.keeps h2 (fun _ _ h => h))
      have HR9 := Lib.hid (HR9a.out.keeps h2 (fun _ _ h => h))
      have HK9 := Lib.hid (HK9a.out.trans h2)
      clear hU h1 h2 HT9a HX9a HW9a HR9a HK9a hz3
      refine wp_region_held_drew (S := fun w' => Keeps (fun _ => False) W9 w') (by kernel_rfl) ((Keeps.refl _ _).drewN 1) (fun hHeld => ?_)
      generalize W9.drew = w10 at hHeld ⊢
      refine wpAnyH_take (i := 0) (v := ?v34) rfl (by kernel_rfl) (by kernel_rfl) (by kernel_rfl) (fun _ _ _ h => h) (Or.inl ⟨by rfl, ?y34⟩) hHeld ?r34
      case y34 => (intro w hSw; go_simp; try with_reducible rfl)
      simp only [Act.put, List.getElem_toArray, List.getElem_cons_succ, List.getElem_cons_zero, List.setIfInBounds_toArray, List.set_cons_zero, List.set_cons_succ]
      refine wpAnyH_take (i := 1) (v := ?v35) rfl (by kernel_rfl) (by kernel_rfl) (by kernel_rfl) (fun _ _ _ h => h) (Or.inl ⟨by rfl, ?y35⟩) hHeld ?r35
      case y35 => (intro w hSw; go_simp; try with_reducible rfl)
      simp only [Act.put, List.getElem_toArray, List.getElem_cons_succ, List.getElem_cons_zero, List.setIfInBounds_toArray, List.set_cons_zero, List.set_cons_succ]
      refine wpAnyH_take (i := 2) (v := ?v36) rfl (by kernel_rfl) (by kernel_rfl) (by kernel_rfl) (fun _ _ _ h => h) (Or.inl ⟨by rfl, ?y36⟩) hHeld ?r36
      case y36 => (intro w hSw; go_simp; try with_reducible rfl)
      simp only [Act.put, List.getElem_toArray, List.getElem_cons_succ, List.getElem_cons_zero, List.setIfInBounds_toArray, List.set_cons_zero, List.set_cons_succ]
      refine wpAnyH_take (i := 3) (v := ?v37) rfl (by kernel_rfl) (by kernel_rfl) (by kernel_rfl) (fun _ _ _ h => h) (Or.inl ⟨by rfl, ?y37⟩) hHeld ?r37
      case y37 => (intro w hSw; go_simp; try with_reducible rfl)
      simp only [Act.put, List.getElem_toArray, List.getElem_cons_succ, List.getElem_cons_zero, List.setIfInBounds_toArray, List.set_cons_zero, List.set_cons_succ]
      refine wpAnyH_take (i := 4) (v := ?v38) rfl (by kernel_rfl) (by kernel_rfl) (by kernel_rfl) (fun _ _ _ h => h) (Or.inl ⟨by rfl, ?y38⟩) hHeld ?r38
      case y38 => (intro w hSw; go_simp; try with_reducible rfl)
      simp only [Act.put, List.getElem_toArray, List.getElem_cons_succ, List.getElem_cons_zero, List.setIfInBounds_toArray, List.set_cons_zero, List.set_cons_succ]
      refine wpAnyH_take (i := 5) (v := ?v39) rfl (by kernel_rfl) (by kernel_rfl) (by kernel_rfl) (fun _ _ _ h => h) (Or.inl ⟨by rfl, ?y39⟩) hHeld ?r39
      case y39 => (intro w hSw; go_simp; try with_reducible rfl)
      simp only [Act.put, List.getElem_toArray, List.getElem_cons_succ, List.getElem_cons_zero, List.setIfInBounds_toArray, List.set_cons_zero, List.set_cons_succ]
      refine wpAnyH_take (i := 8) (v := .agg v) rfl (by kernel_rfl) (by kernel_rfl) (by kernel_rfl) (fun _ _ _ h => h) (yields_row (by rfl) (fun w hSw => HT9.out.keeps hSw id) Try.underlying27 HVI.out (by rfl)) hHeld ?_
      simp only [Act.put, List.getElem_toArray, List.getElem_cons_succ, List.getElem_cons_zero, List.setIfInBounds_toArray, List.set_cons_zero, List.set_cons_succ]
      refine wpAnyH_ready (rs := [6]) (by kernel_rfl) (by simp) ?_
      refine AllReadyH.cons rfl (fun K hK => ?_) AllReadyH.nil
      go_simp
      refine (Ww.bytes_n g g v5 (tabB l) N _ HNE.out (HW9.out.keeps hHeld (fun _ _ h => h))).mono ?_
      rintro e w11 ⟨A11, c11, rfl, hv11, hk11⟩
      dsimp only
      have HL11 := Lib.hid (Lies.of_own hv11)
      have hH11 := hHeld.trans hk11
      clear hv11 hk11
      refine hK.out _ _ hH11 (fun hHeld => ?_)
      clear hK K
      try simp only [Act.put, List.getElem_toArray, List.getElem_cons_succ, List.getElem_cons_zero, List.setIfInBounds_toArray, List.set_cons_zero, List.set_cons_succ]
      refine wpAnyH_ready (rs := [7, 9]) (by kernel_rfl) (by simp) ?_
      refine AllReadyH.cons rfl (fun K hK => ?_) (AllReadyH.cons rfl (fun K hK => ?_) AllReadyH.nil)
      · have hcv := HL11.out.str_n (P := Try.prog) N HNE.out 22 9 5 c11 Try.underlying22 Try.underlying5 Try.underlying9
        rw [HSX.out] at hcv
        go_simp
        clear hcv
        refine hK.out _ _ hHeld (fun hHeld => ?_)
        clear hK K
        try simp only [Act.put, List.getElem_toArray, List.getElem_cons_succ, List.getElem_cons_zero, List.setIfInBounds_toArray, List.set_cons_zero, List.set_cons_succ]
        refine wpAnyH_ready (rs := [9]) (by kernel_rfl) (by simp) ?_
        refine AllReadyH.cons rfl (fun K hK => ?_) AllReadyH.nil
        go_simp
        refine (HTB.out _).mono ?_
        rintro e w12 ⟨A12, c12, rfl, hv12, hk12⟩
        dsimp only
        have HL12 := Lib.hid (Lies.of_own hv12)
        replace HL11 := Lib.hid (HL11.out.keeps hk12 (fun _ _ _ => id))
        have hH12 := hHeld.trans hk12
        clear hv12 hk12
        refine hK.out _ _ hH12 (fun hHeld => ?_)
        clear hK K
        try simp only [Act.put, List.getElem_toArray, List.getElem_cons_succ, List.getElem_cons_zero, List.setIfInBounds_toArray, List.set_cons_zero, List.set_cons_succ]
        refine wpAnyH_ready (rs := [10]) (by kernel_rfl) (by simp) ?_
        refine AllReadyH.cons rfl (fun K hK => ?_) AllReadyH.nil
        have hcv := HL12.out.str_n (P := Try.prog) N HNE.out 22 9 5 c12 Try.underlying22 Try.underlying5 Try.underlying9
        rw [HSX.out] at hcv
        go_simp
        clear hcv
        refine hK.out _ _ hHeld (fun hHeld => ?_)
        clear hK K
        try simp only [Act.put, List.getElem_toArray, List.getElem_cons_succ, List.getElem_cons_zero, List.setIfInBounds_toArray, List.set_cons_zero, List.set_cons_succ]
        refine wpAnyH_take (i := 11) (v := ?v1) rfl (by kernel_rfl) (by kernel_rfl) (by kernel_rfl) (fun _ _ _ h => h) (Or.inl ⟨by rfl, ?y1⟩) hHeld ?r1
        case y1 => (intro w hSw; go_simp; try with_reducible rfl)
        simp only [Act.put, List.getElem_toArray, List.getElem_cons_succ, List.getElem_cons_zero, List.setIfInBounds_toArray, List.set_cons_zero, List.set_cons_succ]
        refine wpAnyH_take (i := 12) (v := ?v2) rfl (by kernel_rfl) (by kernel_rfl) (by kernel_rfl) (fun _ _ _ h => h) (Or.inl ⟨by rfl, ?y2⟩) hHeld ?r2
        case y2 => (intro w hSw; go_simp; try with_reducible rfl)
        simp only [Act.put, List.getElem_toArray, List.getElem_cons_succ, List.getElem_cons_zero, List.setIfInBounds_toArray, List.set_cons_zero, List.set_cons_succ]
        refine wpAnyH_take (i := 13) (v := ?v3) rfl (by kernel_rfl) (by kernel_rfl) (by kernel_rfl) (fun _ _ _ h => h) (Or.inl ⟨by rfl, ?y3⟩) hHeld ?r3
        case y3 => (intro w hSw; go_simp; try with_reducible rfl)
        simp only [Act.put, List.getElem_toArray, List.getElem_cons_succ, List.getElem_cons_zero, List.setIfInBounds_toArray, List.set_cons_zero, List.set_cons_succ]
        refine wpAnyH_take (i := 14) (v := .agg v) rfl (by kernel_rfl) (by kernel_rfl) (by kernel_rfl) (fun _ _ _ h => h) (yields_row (by rfl) (fun w hSw => HU9.out.keeps hSw id) Try.underlying27 HVI.out (by rfl)) hHeld ?_
        simp only [Act.put, List.getElem_toArray, List.getElem_cons_succ, List.getElem_cons_zero, List.setIfInBounds_toArray, List.set_cons_zero, List.set_cons_succ]
        refine wpAnyH_take (i := 15) (v := .agg v) rfl (by kernel_rfl) (by kernel_rfl) (by kernel_rfl) (fun _ _ _ h => h) (yields_row (by rfl) (fun w hSw => HT9.out.keeps hSw id) Try.underlying27 HVI.out (by rfl)) hHeld ?_
        simp only [Act.put, List.getElem_toArray, List.getElem_cons_succ, List.getElem_cons_zero, List.setIfInBounds_toArray, List.set_cons_zero, List.set_cons_succ]
        refine wpAnyH_take (i := 16) (v := ?v4) rfl (by kernel_rfl) (by kernel_rfl) (by kernel_rfl) (fun _ _ _ h => h) (Or.inl ⟨by rfl, ?y4⟩) hHeld ?r4
        case y4 => (intro w hSw; have heq := HEQ.out; go_simp; try with_reducible rfl)
        simp only [Act.put, List.getElem_toArray, List.getElem_cons_succ, List.getElem_cons_zero, List.setIfInBounds_toArray, List.set_cons_zero, List.set_cons_succ]
        refine wpAnyH_take (i := 17) (v := ?v5) rfl (by kernel_rfl) (by kernel_rfl) (by kernel_rfl) (fun _ _ _ h => h) (Or.inl ⟨by rfl, ?y5⟩) hHeld ?r5
        case y5 => (intro w hSw; go_simp; try with_reducible rfl)
        simp only [Act.put, List.getElem_toArray, List.getElem_cons_succ, List.getElem_cons_zero, List.setIfInBounds_toArray, List.set_cons_zero, List.set_cons_succ]
        refine wpAnyH_take (i := 18) (v := ?v6) rfl (by kernel_rfl) (by kernel_rfl) (by kernel_rfl) (fun _ _ _ h => h) (Or.inl ⟨by rfl, ?y6⟩) hHeld ?r6
        case y6 => (intro w hSw; go_simp; try with_reducible rfl)
        simp only [Act.put, List.getElem_toArray, List.getElem_cons_succ, List.getElem_cons_zero, List.setIfInBounds_toArray, List.set_cons_zero, List.set_cons_succ]
        refine wpAnyH_take (i := 19) (v := ?v7) rfl (by kernel_rfl) (by kernel_rfl) (by kernel_rfl) (fun _ _ _ h => h) (Or.inl ⟨by rfl, ?y7⟩) hHeld ?r7
        case y7 => (intro w hSw; go_simp; try with_reducible rfl)
        simp only [Act.put, List.getElem_toArray, List.getElem_cons_succ, List.getElem_cons_zero, List.setIfInBounds_toArray, List.set_cons_zero, List.set_cons_succ]
        refine wpAnyH_take (i := 20) (v := ?v8) rfl (by kernel_rfl) (by kernel_rfl) (by kernel_rfl) (fun _ _ _ h => h) (Or.inl ⟨by rfl, ?y8⟩) hHeld ?r8
        case y8 => (intro w hSw; have hcx := (HX9.out.keeps hSw id).cell 0; simp only [List.getElem?_toArray, List.getElem?_cons_zero] at hcx; go_simp; try with_reducible rfl)
        simp only [Act.put, List.getElem_toArray, List.getElem_cons_succ, List.getElem_cons_zero, List.setIfInBounds_toArray, List.set_cons_zero, List.set_cons_succ]
        refine wpAnyH_ready (rs := [21]) (by kernel_rfl) (by simp) ?_
        refine AllReadyH.cons rfl (fun K hK => ?_) AllReadyH.nil
        go_simp
        refine (Wr.end_ g2 _ b2 _ (HR9.out.keeps hHeld (fun _ _ h => h))).mono ?_
        rintro e w13 ⟨rfl, n13, hw13⟩
        dsimp only
        have hH13 : Keeps (fun _ => False) W9 w13 := by rw [hw13]; exact hHeld.drewN n13
        have hfin : (⟨tabB l, (tabB l).length, 0⟩ : RS).fin = 0 := by simp [RS.fin]
        rw [hfin]
        clear hfin hw13
        refine hK.out _ _ hH13 (fun hHeld => ?_)
        clear hK K
        try simp only [Act.put, List.getElem_toArray, List.getElem_cons_succ, List.getElem_cons_zero, List.setIfInBounds_toArray, List.set_cons_zero, List.set_cons_succ]
        refine wpAnyH_take (i := 22) (v := ?v9) rfl (by kernel_rfl) (by kernel_rfl) (by kernel_rfl) (fun _ _ _ h => h) (Or.inl ⟨by rfl, ?y9⟩) hHeld ?r9
        case y9 => (intro w hSw; go_simp; try with_reducible rfl)
        simp only [Act.put, List.getElem_toArray, List.getElem_cons_succ, List.getElem_cons_zero, List.setIfInBounds_toArray, List.set_cons_zero, List.set_cons_succ]
        refine wpAnyH_take (i := 23) (v := ?v10) rfl (by kernel_rfl) (by kernel_rfl) (by kernel_rfl) (fun _ _ _ h => h) (Or.inl ⟨by rfl, ?y10⟩) hHeld ?r10
        case y10 => (intro w hSw; go_simp; try with_reducible rfl)
        simp only [Act.put, List.getElem_toArray, List.getElem_cons_succ, List.getElem_cons_zero, List.setIfInBounds_toArray, List.set_cons_zero, List.set_cons_succ]
        refine wpAnyH_take (i := 24) (v := ?v11) rfl (by kernel_rfl) (by kernel_rfl) (by kernel_rfl) (fun _ _ _ h => h) (Or.inl ⟨by rfl, ?y11⟩) hHeld ?r11
        case y11 => (intro w hSw; go_simp; try with_reducible rfl)
        simp only [Act.put, List.getElem_toArray, List.getElem_cons_succ, List.getElem_cons_zero, List.setIfInBounds_toArray, List.set_cons_zero, List.set_cons_succ]
        refine wpAnyH_done (by kernel_rfl) ?_ _
        have HFin := Lib.hid (HK9.out.trans hHeld)
        clear hHeld
        go_wp2_with fail
        go_ret
        exact ⟨rfl, HB1.out.trans (HFin.out.below HB1.out.size (fun _ h => h.elim))⟩
      · go_simp
        refine (HTB.out _).mono ?_
        rintro e w12 ⟨A12, c12, rfl, hv12, hk12⟩
        dsimp only
        have HL12 := Lib.hid (Lies.of_own hv12)
        replace HL11 := Lib.hid (HL11.out.keeps hk12 (fun _ _ _ => id))
        have hH12 := hHeld.trans hk12
        clear hv12 hk12
        refine hK.out _ _ hH12 (fun hHeld => ?_)
        clear hK K
        try simp only [Act.put, List.getElem_toArray, List.getElem_cons_succ, List.getElem_cons_zero, List.setIfInBounds_toArray, List.set_cons_zero, List.set_cons_succ]
        refine wpAnyH_ready (rs := [7, 10]) (by kernel_rfl) (by simp) ?_
        refine AllReadyH.cons rfl (fun K hK => ?_) (AllReadyH.cons rfl (fun K hK => ?_) AllReadyH.nil)
        · have hcv := HL11.out.str_n (P := Try.prog) N HNE.out 22 9 5 c11 Try.underlying22 Try.underlying5 Try.underlying9
          rw [HSX.out] at hcv
          go_simp
          clear hcv
          refine hK.out _ _ hHeld (fun hHeld => ?_)
          clear hK K
          try simp only [Act.put, List.getElem_toArray, List.getElem_cons_succ, List.getElem_cons_zero, List.setIfInBounds_toArray, List.set_cons_zero, List.set_cons_succ]
          refine wpAnyH_ready (rs := [10]) (by kernel_rfl) (by simp) ?_
          refine AllReadyH.cons rfl (fun K hK => ?_) AllReadyH.nil
          have hcv := HL12.out.str_n (P := Try.prog) N HNE.out 22 9 5 c12 Try.underlying22 Try.underlying5 Try.underlying9
          rw [HSX.out] at hcv
          go_simp
          clear hcv
          refine hK.out _ _ hHeld (fun hHeld => ?_)
          clear hK K
          try simp only [Act.put, List.getElem_toArray, List.getElem_cons_succ, List.getElem_cons_zero, List.setIfInBounds_toArray, List.set_cons_zero, List.set_cons_succ]
          refine wpAnyH_take (i := 11) (v := ?v12) rfl (by kernel_rfl) (by kernel_rfl) (by kernel_rfl) (fun _ _ _ h => h) (Or.inl ⟨by rfl, ?y12⟩) hHeld ?r12
          case y12 => (intro w hSw; go_simp; try with_reducible rfl)
          simp only [Act.put, List.getElem_toArray, List.getElem_cons_succ, List.getElem_cons_zero, List.setIfInBounds_toArray, List.set_cons_zero, List.set_cons_succ]
          refine wpAnyH_take (i := 12) (v := ?v13) rfl (by kernel_rfl) (by kernel_rfl) (by kernel_rfl) (fun _ _ _ h => h) (Or.inl ⟨by rfl, ?y13⟩) hHeld ?r13
          case y13 => (intro w hSw; go_simp; try with_reducible rfl)
          simp only [Act.put, List.getElem_toArray, List.getElem_cons_succ, List.getElem_cons_zero, List.setIfInBounds_toArray, List.set_cons_zero, List.set_cons_succ]
          refine wpAnyH_take (i := 13) (v := ?v14) rfl (by kernel_rfl) (by kernel_rfl) (by kernel_rfl) (fun _ _ _ h => h) (Or.inl ⟨by rfl, ?y14⟩) hHeld ?r14
          case y14 => (intro w hSw; go_simp; try with_reducible rfl)
          simp only [Act.put, List.getElem_toArray, List.getElem_cons_succ, List.getElem_cons_zero, List.setIfInBounds_toArray, List.set_cons_zero, List.set_cons_succ]
          refine wpAnyH_take (i := 14) (v := .agg v) rfl (by kernel_rfl) (by kernel_rfl) (by kernel_rfl) (fun _ _ _ h => h) (yields_row (by rfl) (fun w hSw => HU9.out.keeps hSw id) Try.underlying27 HVI.out (by rfl)) hHeld ?_
          simp only [Act.put, List.getElem_toArray, List.getElem_cons_succ, List.getElem_cons_zero, List.setIfInBounds_toArray, List.set_cons_zero, List.set_cons_succ]
          refine wpAnyH_take (i := 15) (v := .agg v) rfl (by kernel_rfl) (by kernel_rfl) (by kernel_rfl) (fun _ _ _ h => h) (yields_row (by rfl) (fun w hSw => HT9.out.keeps hSw id) Try.underlying27 HVI.out (by rfl)) hHeld ?_
          simp only [Act.put, List.getElem_toArray, List.getElem_cons_succ, List.getElem_cons_zero, List.setIfInBounds_toArray, List.set_cons_zero, List.set_cons_succ]
          refine wpAnyH_take (i := 16) (v := ?v15) rfl (by kernel_rfl) (by kernel_rfl) (by kernel_rfl) (fun _ _ _ h => h) (Or.inl ⟨by rfl, ?y15⟩) hHeld ?r15
          case y15 => (intro w hSw; have heq := HEQ.out; go_simp; try with_reducible rfl)
          simp only [Act.put, List.getElem_toArray, List.getElem_cons_succ, List.getElem_cons_zero, List.setIfInBounds_toArray, List.set_cons_zero, List.set_cons_succ]
          refine wpAnyH_take (i := 17) (v := ?v16) rfl (by kernel_rfl) (by kernel_rfl) (by kernel_rfl) (fun _ _ _ h => h) (Or.inl ⟨by rfl, ?y16⟩) hHeld ?r16
          case y16 => (intro w hSw; go_simp; try with_reducible rfl)
          simp only [Act.put, List.getElem_toArray, List.getElem_cons_succ, List.getElem_cons_zero, List.setIfInBounds_toArray, List.set_cons_zero, List.set_cons_succ]
          refine wpAnyH_take (i := 18) (v := ?v17) rfl (by kernel_rfl) (by kernel_rfl) (by kernel_rfl) (fun _ _ _ h => h) (Or.inl ⟨by rfl, ?y17⟩) hHeld ?r17
          case y17 => (intro w hSw; go_simp; try with_reducible rfl)
          simp only [Act.put, List.getElem_toArray, List.getElem_cons_succ, List.getElem_cons_zero, List.setIfInBounds_toArray, List.set_cons_zero, List.set_cons_succ]
          refine wpAnyH_take (i := 19) (v := ?v18) rfl (by kernel_rfl) (by kernel_rfl) (by kernel_rfl) (fun _ _ _ h => h) (Or.inl ⟨by rfl, ?y18⟩) hHeld ?r18
          case y18 => (intro w hSw; go_simp; try with_reducible rfl)
          simp only [Act.put, List.getElem_toArray, List.getElem_cons_succ, List.getElem_cons_zero, List.setIfInBounds_toArray, List.set_cons_zero, List.set_cons_succ]
          refine wpAnyH_take (i := 20) (v := ?v19) rfl (by kernel_rfl) (by kernel_rfl) (by kernel_rfl) (fun _ _ _ h => h) (Or.inl ⟨by rfl, ?y19⟩) hHeld ?r19
          case y19 => (intro w hSw; have hcx := (HX9.out.keeps hSw id).cell 0; simp only [List.getElem?_toArray, List.getElem?_cons_zero] at hcx; go_simp; try with_reducible rfl)
          simp only [Act.put, List.getElem_toArray, List.getElem_cons_succ, List.getElem_cons_zero, List.setIfInBounds_toArray, List.set_cons_zero, List.set_cons_succ]
          refine wpAnyH_ready (rs := [21]) (by kernel_rfl) (by simp) ?_
          refine AllReadyH.cons rfl (fun K hK => ?_) AllReadyH.nil
          go_simp
          refine (Wr.end_ g2 _ b2 _ (HR9.out.keeps hHeld (fun _ _ h => h))).mono ?_
          rintro e w13 ⟨rfl, n13, hw13⟩
          dsimp only
          have hH13 : Keeps (fun _ => False) W9 w13 := by rw [hw13]; exact hHeld.drewN n13
          have hfin : (⟨tabB l, (tabB l).length, 0⟩ : RS).fin = 0 := by simp [RS.fin]
          rw [hfin]
          clear hfin hw13
          refine hK.out _ _ hH13 (fun hHeld => ?_)
          clear hK K
          try simp only [Act.put, List.getElem_toArray, List.getElem_cons_succ, List.getElem_cons_zero, List.setIfInBounds_toArray, List.set_cons_zero, List.set_cons_succ]
          refine wpAnyH_take (i := 22) (v := ?v20) rfl (by kernel_rfl) (by kernel_rfl) (by kernel_rfl) (fun _ _ _ h => h) (Or.inl ⟨by rfl, ?y20⟩) hHeld ?r20
          case y20 => (intro w hSw; go_simp; try with_reducible rfl)
          simp only [Act.put, List.getElem_toArray, List.getElem_cons_succ, List.getElem_cons_zero, List.setIfInBounds_toArray, List.set_cons_zero, List.set_cons_succ]
          refine wpAnyH_take (i := 23) (v := ?v21) rfl (by kernel_rfl) (by kernel_rfl) (by kernel_rfl) (fun _ _ _ h => h) (Or.inl ⟨by rfl, ?y21⟩) hHeld ?r21
          case y21 => (intro w hSw; go_simp; try with_reducible rfl)
          simp only [Act.put, List.getElem_toArray, List.getElem_cons_succ, List.getElem_cons_zero, List.setIfInBounds_toArray, List.set_cons_zero, List.set_cons_succ]
          refine wpAnyH_take (i := 24) (v := ?v22) rfl (by kernel_rfl) (by kernel_rfl) (by kernel_rfl) (fun _ _ _ h => h) (Or.inl ⟨by rfl, ?y22⟩) hHeld ?r22
          case y22 => (intro w hSw; go_simp; try with_reducible rfl)
          simp only [Act.put, List.getElem_toArray, List.getElem_cons_succ, List.getElem_cons_zero, List.setIfInBounds_toArray, List.set_cons_zero, List.set_cons_succ]
          refine wpAnyH_done (by kernel_rfl) ?_ _
          have HFin := Lib.hid (HK9.out.trans hHeld)
          clear hHeld
          go_wp2_with fail
          go_ret
          exact ⟨rfl, HB1.out.trans (HFin.out.below HB1.out.size (fun _ h => h.elim))⟩
        · have hcv := HL12.out.str_n (P := Try.prog) N HNE.out 22 9 5 c12 Try.underlying22 Try.underlying5 Try.underlying9
          rw [HSX.out] at hcv
          go_simp
          clear hcv
          refine hK.out _ _ hHeld (fun hHeld => ?_)
          clear hK K
          try simp only [Act.put, List.getElem_toArray, List.getElem_cons_succ, List.getElem_cons_zero, List.setIfInBounds_toArray, List.set_cons_zero, List.set_cons_succ]
          refine wpAnyH_ready (rs := [7]) (by kernel_rfl) (by simp) ?_
          refine AllReadyH.cons rfl (fun K hK => ?_) AllReadyH.nil
          have hcv := HL11.out.str_n (P := Try.prog) N HNE.out 22 9 5 c11 Try.underlying22 Try.underlying5 Try.underlying9
          rw [HSX.out] at hcv
          go_simp
          clear hcv
          refine hK.out _ _ hHeld (fun hHeld => ?_)
          clear hK K
          try simp only [Act.put, List.getElem_toArray, List.getElem_cons_succ, List.getElem_cons_zero, List.setIfInBounds_toArray, List.set_cons_zero, List.set_cons_succ]
          refine wpAnyH_take (i := 11) (v := ?v23) rfl (by kernel_rfl) (by kernel_rfl) (by kernel_rfl) (fun _ _ _ h => h) (Or.inl ⟨by rfl, ?y23⟩) hHeld ?r23
          case y23 => (intro w hSw; go_simp; try with_reducible rfl)
          simp only [Act.put, List.getElem_toArray, List.getElem_cons_succ, List.getElem_cons_zero, List.setIfInBounds_toArray, List.set_cons_zero, List.set_cons_succ]
          refine wpAnyH_take (i := 12) (v := ?v24) rfl (by kernel_rfl) (by kernel_rfl) (by kernel_rfl) (fun _ _ _ h => h) (Or.inl ⟨by rfl, ?y24⟩) hHeld ?r24
          case y24 => (intro w hSw; go_simp; try with_reducible rfl)
          simp only [Act.put, List.getElem_toArray, List.getElem_cons_succ, List.getElem_cons_zero, List.setIfInBounds_toArray, List.set_cons_zero, List.set_cons_succ]
          refine wpAnyH_take (i := 13) (v := ?v25) rfl (by kernel_rfl) (by kernel_rfl) (by kernel_rfl) (fun _ _ _ h => h) (Or.inl ⟨by rfl, ?y25⟩) hHeld ?r25
          case y25 => (intro w hSw; go_simp; try with_reducible rfl)
          simp only [Act.put, List.getElem_toArray, List.getElem_cons_succ, List.getElem_cons_zero, List.setIfInBounds_toArray, List.set_cons_zero, List.set_cons_succ]
          refine wpAnyH_take (i := 14) (v := .agg v) rfl (by kernel_rfl) (by kernel_rfl) (by kernel_rfl) (fun _ _ _ h => h) (yields_row (by rfl) (fun w hSw => HU9.out.keeps hSw id) Try.underlying27 HVI.out (by rfl)) hHeld ?_
          simp only [Act.put, List.getElem_toArray, List.getElem_cons_succ, List.getElem_cons_zero, List.setIfInBounds_toArray, List.set_cons_zero, List.set_cons_succ]
          refine wpAnyH_take (i := 15) (v := .agg v) rfl (by kernel_rfl) (by kernel_rfl) (by kernel_rfl) (fun _ _ _ h => h) (yields_row (by rfl) (fun w hSw => HT9.out.keeps hSw id) Try.underlying27 HVI.out (by rfl)) hHeld ?_
          simp only [Act.put, List.getElem_toArray, List.getElem_cons_succ, List.getElem_cons_zero, List.setIfInBounds_toArray, List.set_cons_zero, List.set_cons_succ]
          refine wpAnyH_take (i := 16) (v := ?v26) rfl (by kernel_rfl) (by kernel_rfl) (by kernel_rfl) (fun _ _ _ h => h) (Or.inl ⟨by rfl, ?y26⟩) hHeld ?r26
          case y26 => (intro w hSw; have heq := HEQ.out; go_simp; try with_reducible rfl)
          simp only [Act.put, List.getElem_toArray, List.getElem_cons_succ, List.getElem_cons_zero, List.setIfInBounds_toArray, List.set_cons_zero, List.set_cons_succ]
          refine wpAnyH_take (i := 17) (v := ?v27) rfl (by kernel_rfl) (by kernel_rfl) (by kernel_rfl) (fun _ _ _ h => h) (Or.inl ⟨by rfl, ?y27⟩) hHeld ?r27
          case y27 => (intro w hSw; go_simp; try with_reducible rfl)
          simp only [Act.put, List.getElem_toArray, List.getElem_cons_succ, List.getElem_cons_zero, List.setIfInBounds_toArray, List.set_cons_zero, List.set_cons_succ]
          refine wpAnyH_take (i := 18) (v := ?v28) rfl (by kernel_rfl) (by kernel_rfl) (by kernel_rfl) (fun _ _ _ h => h) (Or.inl ⟨by rfl, ?y28⟩) hHeld ?r28
          case y28 => (intro w hSw; go_simp; try with_reducible rfl)
          simp only [Act.put, List.getElem_toArray, List.getElem_cons_succ, List.getElem_cons_zero, List.setIfInBounds_toArray, List.set_cons_zero, List.set_cons_succ]
          refine wpAnyH_take (i := 19) (v := ?v29) rfl (by kernel_rfl) (by kernel_rfl) (by kernel_rfl) (fun _ _ _ h => h) (Or.inl ⟨by rfl, ?y29⟩) hHeld ?r29
          case y29 => (intro w hSw; go_simp; try with_reducible rfl)
          simp only [Act.put, List.getElem_toArray, List.getElem_cons_succ, List.getElem_cons_zero, List.setIfInBounds_toArray, List.set_cons_zero, List.set_cons_succ]
          refine wpAnyH_take (i := 20) (v := ?v30) rfl (by kernel_rfl) (by kernel_rfl) (by kernel_rfl) (fun _ _ _ h => h) (Or.inl ⟨by rfl, ?y30⟩) hHeld ?r30
          case y30 => (intro w hSw; have hcx := (HX9.out.keeps hSw id).cell 0; simp only [List.getElem?_toArray, List.getElem?_cons_zero] at hcx; go_simp; try with_reducible rfl)
          simp only [Act.put, List.getElem_toArray, List.getElem_cons_succ, List.getElem_cons_zero, List.setIfInBounds_toArray, List.set_cons_zero, List.set_cons_succ]
          refine wpAnyH_ready (rs := [21]) (by kernel_rfl) (by simp) ?_
          refine AllReadyH.cons rfl (fun K hK => ?_) AllReadyH.nil
          go_simp
          refine (Wr.end_ g2 _ b2 _ (HR9.out.keeps hHeld (fun _ _ h => h))).mono ?_
          rintro e w13 ⟨rfl, n13, hw13⟩
          dsimp only
          have hH13 : Keeps (fun _ => False) W9 w13 := by rw [hw13]; exact hHeld.drewN n13
          have hfin : (⟨tabB l, (tabB l).length, 0⟩ : RS).fin = 0 := by simp [RS.fin]
          rw [hfin]
          clear hfin hw13
          refine hK.out _ _ hH13 (fun hHeld => ?_)
          clear hK K
          try simp only [Act.put, List.getElem_toArray, List.getElem_cons_succ, List.getElem_cons_zero, List.setIfInBounds_toArray, List.set_cons_zero, List.set_cons_succ]
          refine wpAnyH_take (i := 22) (v := ?v31) rfl (by kernel_rfl) (by kernel_rfl) (by kernel_rfl) (fun _ _ _ h => h) (Or.inl ⟨by rfl, ?y31⟩) hHeld ?r31
          case y31 => (intro w hSw; go_simp; try with_reducible rfl)
          simp only [Act.put, List.getElem_toArray, List.getElem_cons_succ, List.getElem_cons_zero, List.setIfInBounds_toArray, List.set_cons_zero, List.set_cons_succ]
          refine wpAnyH_take (i := 23) (v := ?v32) rfl (by kernel_rfl) (by kernel_rfl) (by kernel_rfl) (fun _ _ _ h => h) (Or.inl ⟨by rfl, ?y32⟩) hHeld ?r32
          case y32 => (intro w hSw; go_simp; try with_reducible rfl)
          simp only [Act.put, List.getElem_toArray, List.getElem_cons_succ, List.getElem_cons_zero, List.setIfInBounds_toArray, List.set_cons_zero, List.set_cons_succ]
          refine wpAnyH_take (i := 24) (v := ?v33) rfl (by kernel_rfl) (by kernel_rfl) (by kernel_rfl) (fun _ _ _ h => h) (Or.inl ⟨by rfl, ?y33⟩) hHeld ?r33
          case y33 => (intro w hSw; go_simp; try with_reducible rfl)
          simp only [Act.put, List.getElem_toArray, List.getElem_cons_succ, List.getElem_cons_zero, List.setIfInBounds_toArray, List.set_cons_zero, List.set_cons_succ]
          refine wpAnyH_done (by kernel_rfl) ?_ _
          have HFin := Lib.hid (HK9.out.trans hHeld)
          clear hHeld
          go_wp2_with fail
          go_ret
          exact ⟨rfl, HB1.out.trans (HFin.out.below HB1.out.size (fun _ h => h.elim))⟩

set_option maxRecDepth 100000 in
theorem lifted (os : Os) (started : os.Started) (H : Type) (enc : TypeId × Value → H) :
    ReturnsInHanded {} Try.checked os 4 .any (Rows.freqBackSpec.pre6 enc Try.prog Try.f4 Rows.freqBackRow.domain false) (Rows.freqBackSpec.post enc Try.prog Try.f4 false true false false) := by
  refine returnsInHanded_of_change (C := Try.checked) own started (by kernel_rfl) Try.func4
    (ChangeSpec.witness6 (enc := enc) (C := Try.checked) false ⟨#[], #[.slice none 0 0, .slice none 0 0], []⟩ 8 (by kernel_rfl) (by kernel_rfl) (by kernel_rfl) (by kernel_rfl)) ?_
  intro W base args ds gs before hval0 hW hcnd _
  have hval : ∀ (j : Nat) t v, Try.f4.params[j]? = some t → args[j]? = some v → Value.okWide Try.prog W .any base t v := hval0
  have hW' := hW
  obtain ⟨p, q, hA0, hV, rfl, hfz, hnd⟩ := hW
  have hA : DataW.TrodAll enc Try.prog W 0 (fun _ => true) true Try.f4.params.toList args.toList ds p := hA0
  rw [Try.params4] at hA hval
  obtain ⟨v0, vs0, d0, ds0, p0, q0, hargs, rfl, rfl, h0, r0⟩ := trodAll_cons hA
  obtain ⟨v1, vs1, d1, ds1, p1, q1, rfl, rfl, rfl, h1, r1⟩ := trodAll_cons r0
  obtain ⟨rfl, rfl, rfl⟩ := trodAll_nil r1
  obtain rfl : args = #[v0, v1] := by cases args; simp_all
  obtain ⟨rfl, rfl⟩ := trodVars_none hV
  obtain ⟨a0, len0, cap0, rfl⟩ := okWide_slice Try.underlying22 (hval 0 22 v0 rfl rfl)
  have k0 := h0
  have lt0 : ∀ x ∈ p0, x.block < W.heap.size := by obtain ⟨m, hm⟩ := k0; exact DataW.trod_lt m _ _ _ hm
  obtain ⟨z0, w0⟩ : ∃ zs, IsRow .u8 W a0 len0 cap0 zs := by
    obtain ⟨fuel, hf⟩ := h0
    rcases open_ints Try.underlying22 Try.underlying5 (by kernel_rfl) hf with ⟨hcs, _⟩ | ⟨x, l, c, zs, hcs, _, hl, hm, hz, _, hcell, hwz⟩
    · simp [Value.cells] at hcs
      obtain ⟨rfl, rfl, rfl⟩ := hcs
      exact ⟨[], .inl ⟨rfl, rfl, rfl, rfl⟩⟩
    · simp [Value.cells] at hcs
      obtain ⟨rfl, rfl, rfl⟩ := hcs
      exact ⟨zs, .inr ⟨_, rfl, hl, hm, by simpa using hz, hcell, hwz⟩⟩
  obtain ⟨a1, len1, cap1, rfl⟩ := okWide_slice Try.underlying23 (hval 1 23 v1 rfl rfl)
  have k1 := h1
  have lt1 : ∀ x ∈ p1, x.block < W.heap.size := by obtain ⟨m, hm⟩ := k1; exact DataW.trod_lt m _ _ _ hm
  obtain ⟨z1, w1⟩ : ∃ zs, IsRow .u16 W a1 len1 cap1 zs := by
    obtain ⟨fuel, hf⟩ := h1
    rcases open_ints Try.underlying23 Try.underlying52 (by kernel_rfl) hf with ⟨hcs, _⟩ | ⟨x, l, c, zs, hcs, _, hl, hm, hz, _, hcell, hwz⟩
    · simp [Value.cells] at hcs
      obtain ⟨rfl, rfl, rfl⟩ := hcs
      exact ⟨[], .inl ⟨rfl, rfl, rfl, rfl⟩⟩
    · simp [Value.cells] at hcs
      obtain ⟨rfl, rfl, rfl⟩ := hcs
      exact ⟨zs, .inr ⟨_, rfl, hl, hm, by simpa using hz, hcell, hwz⟩⟩
  clear hA0 hval0
  refine (walk a0 len0 cap0 z0 a1 len1 cap1 z1 W w0 w1).mono fun e W' ⟨he, bel⟩ => ?_
  subst he
  exact ⟨_, rfl, _, _, _, [], _, [], hW', trodAll_mk1 (shut_bool Try.underlying4 _), (trodAll_cons_mk (Below.trod laidOut (by kernel_rfl) (of_decide_eq_true (by kernel_rfl)) k0 bel lt0) (trodAll_cons_mk (Below.trod laidOut (by kernel_rfl) (of_decide_eq_true (by kernel_rfl)) k1 bel lt1) trodAll_mk0)), rfl, bel.frame _, fun h => by cases h⟩

theorem over : Rows.freqBackRow.holds Try.pinned (OpenSpec.ofChange Rows.freqBackSpec) :=
  OpenClaim.holds_of_wide 4 Try.f4 rfl rfl rfl rfl rfl rfl rfl ⟨rfl, rfl, rfl, rfl, rfl⟩ rfl rfl rfl rfl rfl (by kernel_rfl) Try.func4 (by kernel_rfl)
    (of_decide_eq_true (by kernel_rfl)) (by unfold Func.isWrapper; first | (rw [if_pos (by decide +kernel)]; kernel_rfl) | (rw [if_neg (by decide +kernel)]; exact ⟨rfl, rfl⟩))
    (fun os started H enc _ => lifted os started H enc)

/-- The statement, as given. -/
theorem proved : Rows.FreqBackSaid := over
end Go.Proofs.Ytjidgiobnlolpaa.freqBack
namespace Go.Proofs.Ytjidgiobnlolpaa
/-- The statement, as given. -/
theorem freqBack_holds : Rows.FreqBackSaid := freqBack.proved
#print axioms freqBack_holds
end Go.Proofs.Ytjidgiobnlolpaa
