/- The statement BitsSplits (P3.1, without the document's answer: a number's bits in two pieces are those in one) holds for every input: the Go function answers true, and its arguments read as before. No conditions beyond the row's own. -/
import Derived.Test.YtoeblggegahhoaaRows
import Derived.WalkKit
import Derived.Below
import Derived.Test.YtoeblggegahhoaaAwake3
import Derived.Outline
import Derived.Deep.RegionWith
import Derived.ProofKit
import Derived.OpenShut
import Derived.ShutString
namespace Go.Proofs.Ytoeblggegahhoaa.bitsSplits
open Go.ChangeShapes Go.WideShapes Go.ChangeAt Go.RowKit
open Go.ChangeMaps (open_string shut_string)
open Go.Proofs.Ytoeblggegahhoaa.Gen Go.Proofs.Ytoeblggegahhoaa.Cl Go.Proofs.Ytoeblggegahhoaa.Bp Go.Proofs.Ytoeblggegahhoaa.Bf Go.Proofs.Ytoeblggegahhoaa.Bw
set_option linter.unusedVariables false

theorem own : ownKnob Try.prog.godebug = none := by kernel_rfl

theorem sz_nat {n : Nat} (h : n ≤ 32) : sz (n : Int) = n := by unfold sz; omega
set_option maxHeartbeats 400000 in
set_option maxRecDepth 100000 in
theorem walk (a0 : Int) (a1 : Int) (a2 : Int) (a3 : Int) (w0 : (Lit.int .u32 a0).wf = true) (w1 : (Lit.int .u8 a1).wf = true) (w2 : (Lit.int .u8 a2).wf = true) (w3 : (Lit.int .u8 a3).wf = true) (w : World) :
    Calls Try.prog 4 #[.int .u32 a0, .int .u8 a1, .int .u8 a2, .int .u8 a3] w fun e w' => e = .returned (.bool true) ∧ Below w.heap.size w w' := by
  have hb0 := bounds_u32 w0
  have hb1 := bounds_u8 w1
  have hb2 := bounds_u8 w2
  have hb3 := bounds_u8 w3
  obtain ⟨n, rfl⟩ := Int.eq_ofNat_of_zero_le hb0.1
  obtain ⟨x, hx⟩ : ∃ x : Nat, a1 % 17 = (x : Int) := ⟨(a1 % 17).toNat, by omega⟩
  obtain ⟨y, hy⟩ : ∃ y : Nat, a2 % 16 = (y : Int) := ⟨(a2 % 16).toNat, by omega⟩
  obtain ⟨h, hh⟩ : ∃ h : Nat, a3 % 8 = (h : Int) := ⟨(a3 % 8).toNat, by omega⟩
  have hx1 : x ≤ 16 := by omega
  have hy1 : y ≤ 15 := by omega
  have hh1 : h ≤ 7 := by omega
  have hn : n < 4294967296 := by omega
  obtain ⟨N2, hN⟩ : ∃ N2, n / 2 ^ y = N2 := ⟨_, rfl⟩
  have hN2 : (n : Int) / 2 ^ y = (N2 : Int) := by rw [← hN]; simp
  have hNl : N2 < 4294967296 := by have := Nat.div_le_self n (2 ^ y); omega
  have HSP := Lib.hid (tb_split x y n)
  rw [hN] at HSP
  clear hN w0 w1 w2 w3 hb0
  go_enter Try.func4, Try.ntmps4
  go_wp2_with fail
  refine (Aw.awake _).mono ?_
  rintro e w1 ⟨rfl, hb1⟩
  have HB1 := Lib.hid hb1
  clear hb1
  go_wp2_with fail
  rw [hh]
  have HT0 := Lib.hid (Two.new w1)
  generalize (w1.alloc (.cells #[.slice none 0 0, .int .u64 0, .int .i64 0] 39)).alloc (.cells #[.slice none 0 0, .int .u64 0, .int .i64 0] 39) = W0 at *
  refine (by exact put _ _ _ [] 1 (h : Int) _ HT0.out.fst (by simp) (by omega) : Calls Try.prog 12 #[.pointer (some ⟨w1.heap.size, 0, none⟩), .int .u32 1, .int .i64 (h : Int)] W0 (Puts w1.heap.size w1.heap.size (.slice none 0 0) ([] ++ tb 1 (sz (h : Int))) W0)).mono ?_
  rintro e w2 hp
  obtain rfl := hp.1
  rw [sz_nat (by omega), List.nil_append] at hp
  obtain ⟨v1, ht⟩ := HT0.out.put hp
  have HT1 := Lib.hid ht
  clear hp ht HT0
  go_wp2_with fail
  rw [hh]
  refine (by exact put _ _ _ [] 1 (h : Int) _ HT1.out.snd (by simp) (by omega) : Calls Try.prog 12 #[.pointer (some ⟨w1.heap.size + 1, 0, none⟩), .int .u32 1, .int .i64 (h : Int)] w2 (Puts w1.heap.size (w1.heap.size + 1) (.slice none 0 0) ([] ++ tb 1 (sz (h : Int))) w2)).mono ?_
  rintro e w3 hp
  obtain rfl := hp.1
  rw [sz_nat (by omega), List.nil_append] at hp
  obtain ⟨v2, ht⟩ := HT1.out.symm.put hp
  have HT2 := Lib.hid ht.symm
  clear hp ht HT1
  go_wp2_with fail
  refine (put _ _ _ _ n ((x : Int) + (y : Int)) _ HT2.out.fst (by rw [tb_len]; omega) hn).mono ?_
  rintro e w4 hp
  obtain rfl := hp.1
  rw [show (x : Int) + (y : Int) = ((x + y : Nat) : Int) by simp, sz_nat (by omega)] at hp
  obtain ⟨v3, ht⟩ := HT2.out.put hp
  have HT3 := Lib.hid ht
  clear hp ht HT2
  go_wp2_with fail
  refine (put _ _ _ _ N2 (x : Int) _ HT3.out.snd (by rw [tb_len]; omega) hNl).mono ?_
  rintro e w5 hp
  obtain rfl := hp.1
  rw [sz_nat (by omega)] at hp
  obtain ⟨v4, ht⟩ := HT3.out.symm.put hp
  have HT4 := Lib.hid ht.symm
  clear hp ht HT3
  go_wp2_with fail
  refine (put _ _ _ _ n (y : Int) _ HT4.out.snd (by rw [List.length_append, tb_len, tb_len]; omega) hn).mono ?_
  rintro e w6 hp
  obtain rfl := hp.1
  rw [sz_nat (by omega), List.append_assoc, ← HSP.out] at hp
  obtain ⟨v5, ht⟩ := HT4.out.symm.put hp
  obtain ⟨l, hl⟩ : ∃ l, l = tb 1 h ++ tb n (x + y) := ⟨_, rfl⟩
  rw [← hl] at ht
  have hll : l.length = h + (x + y) := by rw [hl, List.length_append, tb_len, tb_len]
  obtain ⟨m, hm⟩ : ∃ m, l.length = m := ⟨_, rfl⟩
  have HM := Lib.hid hm
  have HL : Hid (l.length ≤ 100) := by show l.length ≤ 100; omega
  have HF := Lib.hid ht.snd
  have HG := Lib.hid ht.fst
  have HB6 : Hid (Below w.heap.size w w6) := HB1.out.trans (ht.keeps.below HB1.out.size (fun _ h => Nat.le_trans HB1.out.size h))
  clear hp ht HT4 hl hll hm HB1 HSP hx hy hh hb1 hb2 hb3 hN2 hNl hn hx1 hy1 hh1
  generalize w1.heap.size + 1 = g2 at *
  generalize w1.heap.size = g1 at *
  go_wp2
  have HLF := HF
  have HLG := HG
  go_region_with (first
    | (go_at_call 13; have H7 := HLF; refine (len_bw g1 _ _ l m _ (H7.out.alike (by rfl)) (by have := HL.out; omega) HM.out).mono ?_; rintro e w7 ⟨rfl, n7, rfl⟩; clear H7 HLF)
    | (go_at_call 13; have H8 := HLG; refine (len_bw g2 _ _ l m _ (H8.out.alike (by rfl)) (by have := HL.out; omega) HM.out).mono ?_; rintro e w7 ⟨rfl, n8, rfl⟩; clear H8 HLG)
    | (go_at_call 14; have H9 := HF; refine (Bw.bytes g1 _ _ l _ (H9.out.alike (by rfl)) (by have := HL.out; omega)).mono ?_
       rintro e w8 ⟨A8, c8, ys, k8, hk8, rfl, hpk8, hby8, hv8, hkp8⟩
       obtain ⟨T, hT⟩ : ∃ T, T = strOfNums ys := ⟨_, rfl⟩
       have hc8 : (convert 22 9 (.slice A8 k8 c8)).run Try.prog w8 = .ok (.string T) w8 := by
         rw [hT]; exact (Lies.of_own hv8).str_n (P := Try.prog) k8 hk8 22 9 5 c8 Try.underlying22 Try.underlying5 Try.underlying9
       have HT8 := Lib.hid hT
       have HN8 := Lib.hid hk8
       have HP8 := Lib.hid hpk8
       have HY8 := Lib.hid hby8
       have HV8 := Lib.hid hv8
       have HK8 : Hid (Keeps (fun _ => False) w6 w8) := ⟨hkp8.os, hkp8.tape, hkp8.output, hkp8.size, hkp8.block⟩
       have HG8 := Lib.hid (HG.out.keeps HK8.out (fun _ _ => id))
       clear H9 HF hT hk8 hpk8 hby8 hv8 hkp8)
    | (go_at_call 14; have H9 := HG8; refine (Bw.bytes g2 _ _ l _ H9.out (by have := HL.out; omega)).mono ?_
       rintro e w9 ⟨A9, c9, zs, k9, hk9, rfl, hpk9, hby9, hv9, hkp9⟩
       have hzs := packed_one hpk9 HP8.out hby9 HY8.out
       subst hzs
       have hc9 : (convert 22 9 (.slice A9 k9 c9)).run Try.prog w9 = .ok (.string T) w9 := by
         rw [HT8.out]; exact (Lies.of_own hv9).str_n (P := Try.prog) k9 hk9 22 9 5 c9 Try.underlying22 Try.underlying5 Try.underlying9
       have hc89 : (convert 22 9 (.slice A8 k8 c8)).run Try.prog w9 = .ok (.string T) w9 := by
         rw [HT8.out]; exact (Lies.of_own (own_keeps HV8.out hkp9 (fun _ _ => id))).str_n (P := Try.prog) k8 HN8.out 22 9 5 c8 Try.underlying22 Try.underlying5 Try.underlying9
       have HK9 : Hid (Below w.heap.size w w9) := (HB6.out.trans (HK8.out.below HB6.out.size (fun _ h => h.elim))).trans (hkp9.below (Nat.le_trans HB6.out.size HK8.out.size) (fun _ h => h.elim))
       clear H9 HG8 hk9 hpk9 hby9 hv9 hkp9))
  all_goals
    go_wp2
    go_ret
    exact ⟨rfl, HK9.out⟩
  -- go_enter Try.func4, Try.ntmps4
  -- go_wp2
  -- go_ret
  -- exact ⟨rfl, by repeat (first | exact Grown.refl _ | apply Grown.drew | apply Grown.alloc)⟩

set_option maxRecDepth 100000 in
theorem lifted (os : Os) (started : os.Started) (H : Type) (enc : TypeId × Value → H) :
    ReturnsInHanded {} Try.checked os 4 .any (Rows.bitsSplitsSpec.pre6 enc Try.prog Try.f4 Rows.bitsSplitsRow.domain false) (Rows.bitsSplitsSpec.post enc Try.prog Try.f4 false true false false) := by
  refine returnsInHanded_of_change (C := Try.checked) own started (by kernel_rfl) Try.func4
    (ChangeSpec.witness6 (enc := enc) (C := Try.checked) false ⟨#[], #[.int .u32 0, .int .u8 0, .int .u8 0, .int .u8 0], []⟩ 8 (by kernel_rfl) (by kernel_rfl) (by kernel_rfl) (by kernel_rfl)) ?_
  intro W base args ds gs before hval0 hW hcnd _
  have hval : ∀ (j : Nat) t v, Try.f4.params[j]? = some t → args[j]? = some v → Value.okWide Try.prog W .any base t v := hval0
  have hW' := hW
  obtain ⟨p, q, hA0, hV, rfl, hfz, hnd⟩ := hW
  have hA : DataW.TrodAll enc Try.prog W 0 (fun _ => true) true Try.f4.params.toList args.toList ds p := hA0
  rw [Try.params4] at hA hval
  obtain ⟨v0, vs0, d0, ds0, p0, q0, hargs, rfl, rfl, h0, r0⟩ := trodAll_cons hA
  obtain ⟨v1, vs1, d1, ds1, p1, q1, rfl, rfl, rfl, h1, r1⟩ := trodAll_cons r0
  obtain ⟨v2, vs2, d2, ds2, p2, q2, rfl, rfl, rfl, h2, r2⟩ := trodAll_cons r1
  obtain ⟨v3, vs3, d3, ds3, p3, q3, rfl, rfl, rfl, h3, r3⟩ := trodAll_cons r2
  obtain ⟨rfl, rfl, rfl⟩ := trodAll_nil r3
  obtain rfl : args = #[v0, v1, v2, v3] := by cases args; simp_all
  obtain ⟨rfl, rfl⟩ := trodVars_none hV
  obtain ⟨a0, rfl, rfl, rfl, w0⟩ := open_int Try.underlying28 (hval 0 28 v0 rfl rfl) h0
  obtain ⟨a1, rfl, rfl, rfl, w1⟩ := open_int Try.underlying5 (hval 1 5 v1 rfl rfl) h1
  obtain ⟨a2, rfl, rfl, rfl, w2⟩ := open_int Try.underlying5 (hval 2 5 v2 rfl rfl) h2
  obtain ⟨a3, rfl, rfl, rfl, w3⟩ := open_int Try.underlying5 (hval 3 5 v3 rfl rfl) h3
  clear hA0 hval0
  refine (walk a0 a1 a2 a3 w0 w1 w2 w3 W).mono fun e W' ⟨he, bel⟩ => ?_
  subst he
  exact ⟨_, rfl, _, _, _, [], _, [], hW', trodAll_mk1 (shut_bool Try.underlying4 _), (trodAll_cons_mk (shut_int Try.underlying28 w0) (trodAll_cons_mk (shut_int Try.underlying5 w1) (trodAll_cons_mk (shut_int Try.underlying5 w2) (trodAll_cons_mk (shut_int Try.underlying5 w3) trodAll_mk0)))), rfl, bel.frame _, fun h => by cases h⟩

theorem over : Rows.bitsSplitsRow.holds Try.pinned (OpenSpec.ofChange Rows.bitsSplitsSpec) :=
  OpenClaim.holds_of_wide 4 Try.f4 rfl rfl rfl rfl rfl rfl rfl ⟨rfl, rfl, rfl, rfl, rfl⟩ rfl rfl rfl rfl rfl (by kernel_rfl) Try.func4 (by kernel_rfl)
    (of_decide_eq_true (by kernel_rfl)) (by unfold Func.isWrapper; first | (rw [if_pos (by decide +kernel)]; kernel_rfl) | (rw [if_neg (by decide +kernel)]; exact ⟨rfl, rfl⟩))
    (fun os started H enc _ => lifted os started H enc)

/-- The statement, as given. -/
theorem proved : Rows.BitsSplitsSaid :=
  over
end Go.Proofs.Ytoeblggegahhoaa.bitsSplits
namespace Go.Proofs.Ytoeblggegahhoaa
/-- The statement, as given. -/
theorem bitsSplits_holds : Rows.BitsSplitsSaid := bitsSplits.proved
#print axioms bitsSplits_holds
end Go.Proofs.Ytoeblggegahhoaa
