/- The statement RansStates (P7.1: a byte's parts go into a state, and are taken out) holds for every input: the Go function answers true, and its arguments read as before. No conditions beyond the row's own. -/
import Derived.Test.YtafdilcedggpiaaRows
import Derived.WalkKit
import Derived.Below
import Derived.Test.YtafdilcedggpiaaAwake7
import Derived.Test.YtafdilcedggpiaaRnPush
import Derived.Outline
import Derived.RegionTactic
import Derived.BigQuiet
import Derived.ProofKit
import Derived.OpenShut
import Derived.ShutString
namespace Go.Proofs.Ytafdilcedggpiaa.ransStates
open Go.ChangeShapes Go.WideShapes Go.ChangeAt Go.RowKit
open Go.ChangeMaps (open_string shut_string)
open Go.Proofs.Ytafdilcedggpiaa.Gen Go.Proofs.Ytafdilcedggpiaa.Wr Go.Proofs.Ytafdilcedggpiaa.Ir Go.Proofs.Ytafdilcedggpiaa.Fq Go.Proofs.Ytafdilcedggpiaa.Fb Go.Proofs.Ytafdilcedggpiaa.Rp Go.Proofs.Ytafdilcedggpiaa.Rs Go.Proofs.Ytafdilcedggpiaa.Aw7
set_option linter.unusedVariables false

theorem own : ownKnob Try.prog.godebug = none := by kernel_rfl

theorem and4095 {n : Nat} (h : n < 4294967296) : bits .and .u32 (n : Int) 4095 = ((n % 4096 : Nat) : Int) := by
  have := u32_and_nat n 4095 h (by omega)
  rw [show (4095 : Nat) = 2 ^ 12 - 1 by decide, Nat.and_two_pow_sub_one_eq_mod] at this
  exact this
theorem built_arr : (Try.prog.built 36 []) = some (Array.replicate 256 (.int .i64 0)) := by kernel_rfl
theorem run_arr (w : World) : (Instr.build 36 #[]).run Try.prog w = .ok (.agg (vs zs)) w := by
  rw [zs, ← vs_rep]
  exact run_build w 36 #[] _ built_arr
theorem own_none_cap {w : World} {base n c : Nat} {A : Option Addr} {xs : List Value} (h : w.ownsRow base 5 1 (.slice A n c) n xs) : n ≤ c := by
  obtain ⟨A', c', e, hc⟩ := own_form h
  injection e with _ e2 e3
  omega
set_option maxHeartbeats 8000000 in
set_option maxRecDepth 100000 in
theorem walk (a0 : Int) (a1 : Int) (a2 : Int) (w0 : (Lit.int .u32 a0).wf = true) (w1 : (Lit.int .u16 a1).wf = true) (w2 : (Lit.int .u16 a2).wf = true) (w : World) :
    Calls Try.prog 4 #[.int .u32 a0, .int .u16 a1, .int .u16 a2] w fun e w' => e = .returned (.bool true) ∧ Below w.heap.size w w' := by
  have hb0 := bounds_u32 w0
  have hb1 := bounds_u16 w1
  have hb2 := bounds_u16 w2
  clear w0 w1 w2
  obtain ⟨n0, rfl⟩ : ∃ n : Nat, a0 = (n : Int) := ⟨a0.toNat, by omega⟩
  obtain ⟨n1, rfl⟩ : ∃ n : Nat, a1 = (n : Int) := ⟨a1.toNat, by omega⟩
  obtain ⟨n2, rfl⟩ : ∃ n : Nat, a2 = (n : Int) := ⟨a2.toNat, by omega⟩
  obtain ⟨x, hx⟩ : ∃ x, 8388608 + n0 % 2139095040 = x := ⟨_, rfl⟩
  obtain ⟨r0, hr0⟩ : ∃ r0, n0 % 2139095040 = r0 := ⟨_, rfl⟩
  obtain ⟨r2, hr2⟩ : ∃ r2, n2 % 4096 = r2 := ⟨_, rfl⟩
  obtain ⟨p, hp⟩ : ∃ p, 1 + r2 = p := ⟨_, rfl⟩
  obtain ⟨d, hd⟩ : ∃ d, 4097 - p = d := ⟨_, rfl⟩
  obtain ⟨st, hst⟩ : ∃ st, n1 % d = st := ⟨_, rfl⟩
  have hIn : In x := by unfold In; omega
  have hp1 : 1 ≤ p := by omega
  have hst2 : st < d := by rw [← hst]; exact Nat.mod_lt _ (by omega)
  have hsp : st + p ≤ 4096 := by omega
  have m0 : (n0 : Int) % 2139095040 = (r0 : Int) := by omega
  have m1 : (8388608 : Int) + (r0 : Int) = (x : Int) := by omega
  have m2 : (n2 : Int) % 4096 = (r2 : Int) := by omega
  have m2t : Int.tmod (n2 : Int) 4096 = (r2 : Int) := by rw [Int.tmod_eq_emod_of_nonneg (by omega)]; exact m2
  have m3 : (1 : Int) + (r2 : Int) = (p : Int) := by omega
  have m4 : (4097 : Int) - (p : Int) = (d : Int) := by omega
  have m5 : (n1 : Int) % (d : Int) = (st : Int) := by rw [← hst]; simp
  have m5t : Int.tmod (n1 : Int) (d : Int) = (st : Int) := by rw [Int.tmod_eq_emod_of_nonneg (by omega)]; exact m5
  have hdz : ¬ ((d : Int) = 0) := by omega
  have q0 : IntKind.u64.wrap (n0 : Int) = (n0 : Int) := IntWalk.u64_in _ (by omega)
  have q1 : IntKind.u64.wrap (r0 : Int) = (r0 : Int) := IntWalk.u64_in _ (by omega)
  have q2 : IntKind.u64.wrap (x : Int) = (x : Int) := IntWalk.u64_in _ (by omega)
  have q3 : IntKind.u32.wrap (x : Int) = (x : Int) := IntWalk.u32_in _ (by omega)
  have q4 : IntKind.i64.wrap (n2 : Int) = (n2 : Int) := IntWalk.i64_in _ (by omega)
  have q5 : IntKind.i64.wrap (r2 : Int) = (r2 : Int) := IntWalk.i64_in _ (by omega)
  have q6 : IntKind.i64.wrap (p : Int) = (p : Int) := IntWalk.i64_in _ (by omega)
  have q7 : IntKind.i64.wrap (n1 : Int) = (n1 : Int) := IntWalk.i64_in _ (by omega)
  have q8 : IntKind.i64.wrap (d : Int) = (d : Int) := IntWalk.i64_in _ (by omega)
  have q9 : IntKind.i64.wrap (st : Int) = (st : Int) := IntWalk.i64_in _ (by omega)
  obtain ⟨S, hS⟩ : ∃ S, push st p x = S := ⟨_, rfl⟩
  obtain ⟨G, hG⟩ : ∃ G, gone p x = G := ⟨_, rfl⟩
  obtain ⟨hSI, hS4, _⟩ := push_in hIn hp1 hsp
  rw [hS] at hSI hS4
  have hGl := gone_len (p := p) hIn hp1
  have hGb := gone_byte (p := p) hIn hp1
  rw [hG] at hGl hGb
  have hkm : kept p x % p < p := Nat.mod_lt _ hp1
  have HTS : Hid (takeS st p S ⟨G.reverse, 0, 0⟩ = (x, ⟨G.reverse, 0 + G.length, 0⟩)) := by
    have := step_back (xs := G.reverse) (k := 0) (R := []) hIn hp1 hsp (by rw [hG]; simp)
    rw [hS, hG] at this
    exact this
  have HIN := Lib.hid hIn
  have HSI := Lib.hid hSI
  have HP1 := Lib.hid hp1
  have HSP := Lib.hid hsp
  have HS := Lib.hid hS
  have HG := Lib.hid hG
  have HGL := Lib.hid hGl
  have HGB := Lib.hid hGb
  obtain ⟨S4, hS4e⟩ : ∃ S4, S % 4096 = S4 := ⟨_, rfl⟩
  have HS4a : Hid (st ≤ S4 ∧ S4 < st + p) := by show _ ∧ _; omega
  have HS4e := Lib.hid hS4e
  clear hb0 hb1 hb2 hx hr0 hr2 hp hd hst hst2 hSI hS4 hGl hGb hkm hIn hp1 hsp hS hG hS4e
  have HZI := Lib.hid (arr_size zs_len)
  have HZ1 := Lib.hid (vs_one zs)
  have hbu := run_arr
  have hz2 : ∀ w, (zeroValue 36).run Try.prog w = .ok (.agg (vs zs)) w := arr_zero
  generalize hZ : vs zs = Z at hz2 hbu HZI HZ1
  have HZS := Lib.hid hZ
  clear hZ
  go_enter Try.func4, Try.ntmps4
  go_wp2_with fail
  refine (awake_ _).mono ?_
  rintro e w1 ⟨rfl, hk1⟩
  have HK1 := Lib.hid hk1
  clear hk1
  go_upto_region 7 with fail
  obtain ⟨OO, hOO⟩ : ∃ OO, w1.heap.size = OO := ⟨_, rfl⟩
  have HW2 := Lib.hid (Ww.new_of 22 (by decide) w1)
  have HK2 : Hid (Keeps (fun _ => False) w (w1.alloc (.cells #[.slice none 0 0] 22))) := HK1.out.alloc _
  generalize w1.alloc (.cells #[.slice none 0 0] 22) = W2 at HW2 HK2 ⊢
  have HOW : Hid (w.heap.size ≤ OO) := by show _ ≤ OO; rw [← hOO]; exact HK1.out.size
  rw [hOO] at HW2 ⊢
  clear hOO HK1
  go_upto_region 8 with (
    go_at_call 10
    refine (sput OO OO (.slice none 0 0) [] st p x S G W2 HW2.out (by simp) HIN.out HP1.out HSP.out HS.out HG.out).mono ?_
    rintro e w3 ⟨rfl, v3, hw3, hk3, _⟩
    rw [List.nil_append] at hw3
    have HW3 := Lib.hid hw3
    have HK3 := Lib.hid (Rt.keeps_low HK2.out hk3 (fun y hy => by
      rcases hy with rfl | hy
      · exact HOW.out
      · simp [Value.ownBlock] at hy))
    clear hw3 hk3 HW2 HK2)
  obtain ⟨g1, g2, g3, ⟨A3, c3, hv3⟩, g5, g6⟩ := HW3.out
  obtain ⟨m, hm⟩ : ∃ m, G.length = m := ⟨_, rfl⟩
  rw [hm] at hv3 g6
  subst hv3
  have HM := Lib.hid hm
  have HC3 : Hid (∀ W, Keeps (fun _ => False) w3 W → W.cell? ⟨OO, 0, none⟩ = some (.slice A3 m c3)) := fun W k => (g5.keeps k id).cell
  have HL3 := Lib.hid (Lies.of_own g6)
  clear g1 g2 g3 g5 g6 hm HW3
  go_upto_region 9 with ((with_reducible refine st_row (Blk.new _ 36 Z) HZI.out rfl HZ1.out ?_ ?_ ?_); rfl; rfl)
  obtain ⟨T, hT⟩ : ∃ T, w3.heap.size = T := ⟨_, rfl⟩
  have HB4 : Hid (Blk ((w3.alloc (.cells Z 36)).setRow w3.heap.size Z) w3.heap.size 36 Z) := new_put
  have HK4 : Hid (Keeps (fun _ => False) w3 ((w3.alloc (.cells Z 36)).setRow w3.heap.size Z)) := Keeps.put_new (Keeps.refl _ _)
  generalize (w3.alloc (.cells Z 36)).setRow w3.heap.size Z = W4 at HB4 HK4 ⊢
  have HT3 := Lib.hid hT
  rw [hT] at HB4 ⊢
  rw [← HZS.out] at HB4
  have hc0 : W4.cell? ⟨T, 0, none⟩ = some (.int .i64 0) := by rw [HB4.out.cell, vs_get (by rw [zs_len]; omega), zs_getD]
  have hc1 : W4.cell? ⟨T, 1, none⟩ = some (.int .i64 0) := by rw [HB4.out.cell, vs_get (by rw [zs_len]; omega), zs_getD]
  have hc2 : W4.cell? ⟨T, 2, none⟩ = some (.int .i64 0) := by rw [HB4.out.cell, vs_get (by rw [zs_len]; omega), zs_getD]
  have hf0 := HB4.out.frozen 0
  have hf1 := HB4.out.frozen 1
  have hf2 := HB4.out.frozen 2
  obtain ⟨e1, he1⟩ : ∃ e1 : Nat, 4096 - st = e1 := ⟨_, rfl⟩
  obtain ⟨e2, he2⟩ : ∃ e2 : Nat, e1 - p = e2 := ⟨_, rfl⟩
  have f6 : (4096 : Int) - (st : Int) = (e1 : Int) := by have := HSP.out; omega
  have f7 : (e1 : Int) - (p : Int) = (e2 : Int) := by have := HSP.out; omega
  have q10 : IntKind.i64.wrap (e1 : Int) = (e1 : Int) := IntWalk.i64_in _ (by omega)
  have q11 : IntKind.i64.wrap (e2 : Int) = (e2 : Int) := IntWalk.i64_in _ (by omega)
  clear hT he1 he2
  go_upto_region 10 with fail
  have HB5 : Hid (Blk (((W4.setCell ⟨T, 0, none⟩ (.int .i64 (st : Int))).setCell ⟨T, 1, none⟩ (.int .i64 (p : Int))).setCell ⟨T, 2, none⟩ (.int .i64 (e2 : Int))) T 36 (vs (((zs.set 0 (st : Int)).set 1 (p : Int)).set 2 (e2 : Int)))) := by
    have := ((HB4.out.setCell 0 (.int .i64 (st : Int))).setCell 1 (.int .i64 (p : Int))).setCell 2 (.int .i64 (e2 : Int))
    rw [vs_set, vs_set, vs_set] at this
    exact this
  have HK5 : Hid (Keeps (fun _ => False) w3 (((W4.setCell ⟨T, 0, none⟩ (.int .i64 (st : Int))).setCell ⟨T, 1, none⟩ (.int .i64 (p : Int))).setCell ⟨T, 2, none⟩ (.int .i64 (e2 : Int)))) :=
    ((HK4.out.setCell (p := ⟨T, 0, none⟩) (.inr (by have := HT3.out; show w3.heap.size ≤ T; omega)) _).setCell (p := ⟨T, 1, none⟩) (.inr (by have := HT3.out; show w3.heap.size ≤ T; omega)) _).setCell (p := ⟨T, 2, none⟩) (.inr (by have := HT3.out; show w3.heap.size ≤ T; omega)) _
  generalize ((W4.setCell ⟨T, 0, none⟩ (.int .i64 (st : Int))).setCell ⟨T, 1, none⟩ (.int .i64 (p : Int))).setCell ⟨T, 2, none⟩ (.int .i64 (e2 : Int)) = W5 at HB5 HK5 ⊢
  obtain ⟨l, hl⟩ : ∃ l, ((zs.set 0 (st : Int)).set 1 (p : Int)).set 2 (e2 : Int) = l := ⟨_, rfl⟩
  have hll : l.length = 256 := by rw [← hl]; simp only [List.length_set]; exact zs_len
  have hl0 : l.getD 0 0 = (st : Int) := by
    rw [← hl, getD_set (by simp only [List.length_set]; rw [zs_len]; omega), if_neg (by omega), getD_set (by simp only [List.length_set]; rw [zs_len]; omega), if_neg (by omega), getD_set (by rw [zs_len]; omega), if_pos rfl]
  have hl1 : l.getD 1 0 = (p : Int) := by
    rw [← hl, getD_set (by simp only [List.length_set]; rw [zs_len]; omega), if_neg (by omega), getD_set (by simp only [List.length_set]; rw [zs_len]; omega), if_pos rfl]
  rw [hl] at HB5
  obtain ⟨V, hV⟩ : ∃ V, vs l = V := ⟨_, rfl⟩
  rw [hV] at HB5
  have HVI : Hid ((Try.prog.info? 36).map (·.size) = some V.size) := by show _ = _; rw [← hV]; exact arr_size hll
  have HPC := Lib.hid (fun W => rpush l V st p x S G W hV hll hl0 hl1 HIN.out HP1.out HSP.out HS.out HG.out)
  clear hl hll hl0 hl1 hV hc0 hc1 hc2 hf0 hf1 hf2 HB4 HK4
  go_upto_region 11 with (first
    | (go_at_call 11
       refine (HPC.out _).mono ?_
       rintro e w6 ⟨A6, c6, m6, rfl, hl6, ho6, hk6⟩
       obtain rfl : m6 = m := by rw [← hl6]; exact HM.out
       have HL6 := Lib.hid (Lies.of_own ho6)
       have HK6 := Lib.hid (HK5.out.trans hk6)
       clear hl6 ho6 hk6)
    | ((with_reducible refine ld_row HB5.out Try.underlying36 HVI.out ?_ ?_); rfl))
  have hco := HC3.out w6 HK6.out
  obtain ⟨sx, hsx⟩ : ∃ sx, strOfNums G = sx := ⟨_, rfl⟩
  have HL36 := Lib.hid (HL3.out.keeps HK6.out (fun _ _ _ => id))
  have hcvA := HL36.out.str_n (P := Try.prog) m6 HM.out 22 9 5 c3 Try.underlying22 Try.underlying5 Try.underlying9
  have hcvB := HL6.out.str_n (P := Try.prog) m6 HM.out 22 9 5 c6 Try.underlying22 Try.underlying5 Try.underlying9
  rw [hsx] at hcvA hcvB
  have hSu : IntKind.u64.wrap (S : Int) = (S : Int) := IntWalk.u64_in _ (by have := HSI.out.2; omega)
  have d1 : ¬ ((S : Int) < 8388608) := by have := HSI.out.1; omega
  have hand := and4095 (n := S) (by have := HSI.out.2; omega)
  rw [HS4e.out] at hand
  have q12 : IntKind.i64.wrap (S4 : Int) = (S4 : Int) := IntWalk.i64_in _ (by have := HS4a.out; have := HSP.out; omega)
  have d2 : st ≤ S4 := HS4a.out.1
  have q13 : IntKind.i64.wrap ((st : Int) + (p : Int)) = (st : Int) + (p : Int) := IntWalk.i64_in _ (by have := HSP.out; omega)
  have d3 : decide ((st : Int) + (p : Int) ≤ (S4 : Int)) = false := by rw [decide_eq_false_iff_not]; have := HS4a.out.2; omega
  have hSS : ((S : Int) != (S : Int)) = false := by simp
  have HKw := Lib.hid (HK3.out.trans HK6.out)
  clear HL3 HL6 hsx HPC HB5 HK5 m0 m1 m2 m2t m3 m4 m5 m5t f6 f7 q0 q1 q4 q5 q7 q8 q10 q11 hdz hz2 hbu
  go_upto_region 14 with (first
    | (go_at_call 13
       refine (Rt.turned A3 m6 c3 G w6 HM.out HL36.out (by have := HM.out; have := HGL.out; omega)).mono ?_
       rintro e w7 ⟨A7, c7, rfl, ho7, hk7⟩
       have HL7 := Lib.hid (Lies.of_own ho7)
       have HK7 := Lib.hid (HKw.out.trans hk7)
       clear ho7 hk7)
    | (go_at_call 12
       refine (iread A7 m6 c7 G.reverse w7 (by rw [List.length_reverse]; exact HM.out) HL7.out (by have := HM.out; have := HGL.out; omega) (fun y hy => HGB.out y (List.mem_reverse.1 hy))).mono ?_
       rintro e w8 ⟨g, rfl, hr8, hk8⟩
       have HR8 := Lib.hid hr8
       have HK8 := Lib.hid (HK7.out.trans hk8)
       have HGW : Hid (w.heap.size ≤ g) := Nat.le_trans HK7.out.size hr8.1
       unfold rd
       clear hr8 hk8))
  obtain ⟨R, hR⟩ : ∃ R, w8.heap.size = R := ⟨_, rfl⟩
  obtain ⟨bs7, hbs7⟩ : ∃ bs7, w7.heap.size = bs7 := ⟨_, rfl⟩
  have HB9 : Hid (Blk (w8.alloc (.cells #[.pointer (some ⟨g, 0, none⟩)] 41)) w8.heap.size 41 #[.pointer (some ⟨g, 0, none⟩)]) := Blk.new _ _ _
  have HKa : Hid (Keeps (fun _ => False) w8 (w8.alloc (.cells #[.pointer (some ⟨g, 0, none⟩)] 41))) := (Keeps.refl _ _).alloc _
  generalize w8.alloc (.cells #[.pointer (some ⟨g, 0, none⟩)] 41) = W9 at HB9 HKa ⊢
  have HGR : Hid (g < R) := by show g < R; rw [← hR]; exact HR8.out.lt
  have HR9 := Lib.hid (HR8.out.keeps HKa.out (fun _ _ => id))
  rw [hbs7] at HR9
  have HK9 := Lib.hid (HK8.out.trans HKa.out)
  rw [hR] at HB9 ⊢
  obtain ⟨s2, hs2⟩ : ∃ s2 : RS, ⟨G.reverse, 0 + G.length, 0⟩ = s2 := ⟨_, rfl⟩
  rw [hs2] at HTS
  have hfin : s2.fin = 0 := by
    rw [← hs2]
    unfold RS.fin
    simp
  have HST := Lib.hid (stake g bs7 ⟨G.reverse, 0, 0⟩ s2 st p S x W9 HR9.out HSI.out HP1.out HSP.out (by rw [HS4e.out]; exact HS4a.out.1) (by rw [HS4e.out]; exact HS4a.out.2) HTS.out)
  have HEN := Lib.hid (fun W (h : IsRd bs7 g s2 W) => Wr.end_ g s2 bs7 W h)
  rw [hfin] at HEN
  unfold rd at HST
  have hb9 : W9.cell? ⟨R, 0, none⟩ = some (.pointer (some ⟨g, 0, none⟩)) := HB9.out.cell 0
  clear hR hbs7 hs2 hfin HR8 HKa HK8 HR9
  go_wp2_with (first
    | (go_at_call 14
       refine HST.out.mono ?_
       rintro e w10 ⟨rfl, hr10, hk10⟩
       have HR10 := Lib.hid hr10
       have hb10 : w10.cell? ⟨R, 0, none⟩ = some (.pointer (some ⟨g, 0, none⟩)) := (HB9.out.keeps hk10 (fun e => by have := HGR.out; omega)).cell 0
       have HK10 := Lib.hid (Rt.keeps_low HK9.out hk10 (fun y hy => by rw [hy]; exact HGW.out))
       clear hr10 hk10 hb9)
    | (go_at_call 15
       refine (HEN.out _ HR10.out).mono ?_
       rintro e w11 ⟨rfl, q14, rfl⟩))
  go_ret
  exact ⟨rfl, (HK10.out.drewN q14).below (Nat.le_refl _) (fun _ h => h.elim)⟩
  -- go_enter Try.func4, Try.ntmps4
  -- go_wp2
  -- go_ret
  -- exact ⟨rfl, by repeat (first | exact Grown.refl _ | apply Grown.drew | apply Grown.alloc)⟩

set_option maxRecDepth 100000 in
theorem lifted (os : Os) (started : os.Started) (H : Type) (enc : TypeId × Value → H) :
    ReturnsInHanded {} Try.checked os 4 .any (Rows.ransStatesSpec.pre6 enc Try.prog Try.f4 Rows.ransStatesRow.domain false) (Rows.ransStatesSpec.post enc Try.prog Try.f4 false true false false) := by
  refine returnsInHanded_of_change (C := Try.checked) own started (by kernel_rfl) Try.func4
    (ChangeSpec.witness6 (enc := enc) (C := Try.checked) false ⟨#[], #[.int .u32 0, .int .u16 0, .int .u16 0], []⟩ 8 (by kernel_rfl) (by kernel_rfl) (by kernel_rfl) (by kernel_rfl)) ?_
  intro W base args ds gs before hval0 hW hcnd _
  have hval : ∀ (j : Nat) t v, Try.f4.params[j]? = some t → args[j]? = some v → Value.okWide Try.prog W .any base t v := hval0
  have hW' := hW
  obtain ⟨p, q, hA0, hV, rfl, hfz, hnd⟩ := hW
  have hA : DataW.TrodAll enc Try.prog W 0 (fun _ => true) true Try.f4.params.toList args.toList ds p := hA0
  rw [Try.params4] at hA hval
  obtain ⟨v0, vs0, d0, ds0, p0, q0, hargs, rfl, rfl, h0, r0⟩ := trodAll_cons hA
  obtain ⟨v1, vs1, d1, ds1, p1, q1, rfl, rfl, rfl, h1, r1⟩ := trodAll_cons r0
  obtain ⟨v2, vs2, d2, ds2, p2, q2, rfl, rfl, rfl, h2, r2⟩ := trodAll_cons r1
  obtain ⟨rfl, rfl, rfl⟩ := trodAll_nil r2
  obtain rfl : args = #[v0, v1, v2] := by cases args; simp_all
  obtain ⟨rfl, rfl⟩ := trodVars_none hV
  obtain ⟨a0, rfl, rfl, rfl, w0⟩ := open_int Try.underlying31 (hval 0 31 v0 rfl rfl) h0
  obtain ⟨a1, rfl, rfl, rfl, w1⟩ := open_int Try.underlying23 (hval 1 23 v1 rfl rfl) h1
  obtain ⟨a2, rfl, rfl, rfl, w2⟩ := open_int Try.underlying23 (hval 2 23 v2 rfl rfl) h2
  clear hA0 hval0
  refine (walk a0 a1 a2 w0 w1 w2 W).mono fun e W' ⟨he, bel⟩ => ?_
  subst he
  exact ⟨_, rfl, _, _, _, [], _, [], hW', trodAll_mk1 (shut_bool Try.underlying4 _), (trodAll_cons_mk (shut_int Try.underlying31 w0) (trodAll_cons_mk (shut_int Try.underlying23 w1) (trodAll_cons_mk (shut_int Try.underlying23 w2) trodAll_mk0))), rfl, bel.frame _, fun h => by cases h⟩

theorem over : Rows.ransStatesRow.holds Try.pinned (OpenSpec.ofChange Rows.ransStatesSpec) :=
  OpenClaim.holds_of_wide 4 Try.f4 rfl rfl rfl rfl rfl rfl rfl ⟨rfl, rfl, rfl, rfl, rfl⟩ rfl rfl rfl rfl rfl (by kernel_rfl) Try.func4 (by kernel_rfl)
    (of_decide_eq_true (by kernel_rfl)) (by unfold Func.isWrapper; first | (rw [if_pos (by decide +kernel)]; kernel_rfl) | (rw [if_neg (by decide +kernel)]; exact ⟨rfl, rfl⟩))
    (fun os started H enc _ => lifted os started H enc)

/-- The statement, as given. -/
theorem proved : Rows.RansStatesSaid :=
  over
end Go.Proofs.Ytafdilcedggpiaa.ransStates
namespace Go.Proofs.Ytafdilcedggpiaa
/-- The statement, as given. -/
theorem ransStates_holds : Rows.RansStatesSaid := ransStates.proved
#print axioms ransStates_holds
end Go.Proofs.Ytafdilcedggpiaa
