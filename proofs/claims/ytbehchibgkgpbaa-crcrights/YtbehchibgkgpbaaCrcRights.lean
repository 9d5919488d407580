/- The statement CrcRights (P4.1: any bytes: whether they end with their sum) holds for every input: the Go function answers true, and its arguments read as before. No conditions beyond the row's own. -/
import Derived.Test.YtbehchibgkgpbaaRows
import Derived.WalkKit
import Derived.ProofKit
import Derived.OpenShut
import Derived.ShutString
import Derived.ChangeOld
import Derived.Below
import Derived.Test.YtbehchibgkgpbaaAwake4
import Derived.Test.YtbehchibgkgpbaaCrcMore
import Derived.Test.YtbehchibgkgpbaaCrcRefS
import Derived.Outline
import Derived.Lib.Bytes
import Derived.Deep.RegionWith
import Derived.Deep.CutRange
namespace Go.Proofs.Ytbehchibgkgpbaa.crcRights
open Go.ChangeShapes Go.WideShapes Go.ChangeAt Go.RowKit
open Go.ChangeMaps (open_string shut_string)
open Go.Proofs.Ytbehchibgkgpbaa.Gen Go.Proofs.Ytbehchibgkgpbaa.Cp Go.Proofs.Ytbehchibgkgpbaa.Ct Go.Proofs.Ytbehchibgkgpbaa.Cs Go.Proofs.Ytbehchibgkgpbaa.Cu Go.Proofs.Ytbehchibgkgpbaa.Cr Go.Proofs.Ytbehchibgkgpbaa.Cf Go.Proofs.Ytbehchibgkgpbaa.Cm
set_option linter.unusedVariables false

theorem own : ownKnob Try.prog.godebug = none := by kernel_rfl
theorem laidOut : laidOutB Try.prog = true := by kernel_rfl

/-- WHAT THE WALK IS TOLD OF A SLICE OF INTEGERS THAT CAME IN: it is nil; or it leads to a row of 'cap' cells, the numbers 'zs' (the first 'len' are its elements, the rest its spare room), each fitting its kind. -/
def IsRow (k : IntKind) (w : World) (a : Option Addr) (len cap : Nat) (zs : List Int) : Prop :=
  (a = none ∧ len = 0 ∧ cap = 0 ∧ zs = []) ∨
  ∃ x, a = some x ∧ len ≤ cap ∧ cap ≤ maxLen ∧ zs.length = cap ∧ (∀ i, i < zs.length → w.cell? (x.add i) = some (.int k (zs.getD i 0))) ∧ ∀ n ∈ zs, (Lit.int k n).wf = true

theorem str_inj {us vs : List Int} (hu : Byt us) (hv : Byt vs) (h : (strOfNums us).toList = (strOfNums vs).toList) : us = vs := by
  have h1 : us.map (fun n => UInt8.ofNat n.toNat) = vs.map (fun n => UInt8.ofNat n.toNat) := by
    rw [Lib.strOfNums_toList, Lib.strOfNums_toList] at h
    exact h
  have h2 : us.map (fun n => (UInt8.ofNat n.toNat).toNat) = vs.map (fun n => (UInt8.ofNat n.toNat).toNat) := by
    have := congrArg (List.map UInt8.toNat) h1
    simpa [List.map_map, Function.comp_def] using this
  have hn : ∀ {l : List Int}, Byt l → l.map (fun n => (UInt8.ofNat n.toNat).toNat) = nat l := by
    intro l hl
    refine List.map_congr_left fun x hx => ?_
    have := hl x hx
    rw [UInt8.toNat_ofNat']
    omega
  rw [hn hu, hn hv] at h2
  rw [← iv_nat hu, ← iv_nat hv, h2]
set_option maxHeartbeats 1000000 in
set_option maxRecDepth 100000 in
theorem walk (a0 : Option Addr) (len0 cap0 : Nat) (z0 : List Int) (w : World) (w0 : IsRow .u8 w a0 len0 cap0 z0) :
    Calls Try.prog 5 #[.slice a0 len0 cap0] w fun e w' => e = .returned (.bool true) ∧ Below w.heap.size w w' := by
  obtain ⟨hxl, hlc, hlies, hby⟩ := row_lies w0
  by_cases hl : len0 ≤ 300
  · have hd0 : decide ((300 : Int) < (len0 : Int)) = false := by simp; omega
    obtain ⟨xs, hxs⟩ : ∃ xs, xs = z0.take len0 := ⟨_, rfl⟩
    rw [← hxs] at hxl hlies hby
    have HX := Lib.hid hxl
    have HL := Lib.hid hlies
    have HBY : Hid (Byt xs) := hby
    clear hxs hxl hlies hby w0
    obtain ⟨r, hr⟩ : ∃ r, decide (Rt xs) = r := ⟨_, rfl⟩
    have HR := Lib.hid hr
    clear hr
    by_cases h4 : len0 < 4
    · obtain rfl : r = false := by
        rw [← HR.out, decide_eq_false_iff_not]
        intro h
        have h1 := h.1
        have := HX.out
        omega
      have hd4 : decide ((4 : Int) ≤ (len0 : Int)) = false := by simp; omega
      go_enter Try.func5, Try.ntmps5
      go_wp2_with fail
      refine (Aw.awake _).mono ?_
      rintro e w1 ⟨rfl, hb1⟩
      have HB1 := Lib.hid hb1
      have HL1 := Lib.hid (HL.out.below hb1)
      clear hb1
      go_wp2_with fail
      refine (new_ w1).mono ?_
      rintro e w2 ⟨rfl, hb2, hk2⟩
      have HT2 := Lib.hid hb2
      have HK2 := Lib.hid hk2
      have HL2 := Lib.hid (HL1.out.keeps hk2 (fun _ _ _ => id))
      clear hb2 hk2
      go_wp2_with fail
      refine (right w1.heap.size len0 cap0 a0 xs false w2 HT2.out HL2.out HBY.out HX.out hlc (by omega) HR.out).mono ?_
      rintro e w5 ⟨rfl, hk5⟩
      have HK5 : Hid (Below w.heap.size w w5) := HB1.out.trans ((HK2.out.trans hk5).below HB1.out.size (fun _ h => h.elim))
      clear hk5
      go_wp2
      go_ret
      exact ⟨rfl, HK5.out⟩
    · obtain ⟨m, rfl⟩ : ∃ m, len0 = m + 4 := ⟨len0 - 4, by omega⟩
      obtain ⟨b, o, rfl⟩ : ∃ b o, a0 = some ⟨b, o, none⟩ := by
        have hx := HX.out
        rcases HL.out with h | ⟨b, o, h, _⟩
        · rw [h] at hx; simp at hx
        · exact ⟨b, o, h⟩
      obtain ⟨q, hq⟩ : ∃ q, sumOf (nat (xs.take m)) = q := ⟨_, rfl⟩
      have hql : q < 4294967296 := by rw [← hq]; exact sum_lt _
      have HQ := Lib.hid hq
      have HRW : Hid (decide (wordAt q 4 = xs.drop m) = r) := by
        show decide (wordAt q 4 = xs.drop m) = r
        rw [← HR.out]
        refine decide_eq_decide.2 ?_
        unfold Rt
        rw [HX.out, show m + 4 - 4 = m by omega, hq]
        exact ⟨fun h => ⟨by omega, h.symm⟩, fun h => h.2.symm⟩
      clear hq
      have hcut0 := fun w => run_cut_from (P := Try.prog) 22 5 (some ⟨b, o, none⟩) (m + 4) cap0 m .i64 Try.underlying22 Try.sizeOf5 (by omega) w
      have hcut : ∀ w, (Instr.slice 22 (.slice (some ⟨b, o, none⟩) (m + 4) cap0) (some (.int .i64 (m : Int))) none none).run Try.prog w = .ok (.slice (some ⟨b, o + m, none⟩) 4 (cap0 - m)) w := by
        intro w
        rw [hcut0 w, cutAt, if_neg (by omega), Option.map_some, add_none, show m + 4 - m = 4 by omega]
      have hd4 : decide ((4 : Int) ≤ (m : Int) + 4) = true := by simp; omega
      clear hcut0 h4
      go_enter Try.func5, Try.ntmps5
      go_wp2_with fail
      refine (Aw.awake _).mono ?_
      rintro e w1 ⟨rfl, hb1⟩
      have HB1 := Lib.hid hb1
      have HL1 := Lib.hid (HL.out.below hb1)
      clear hb1
      go_wp2_with fail
      refine (new_ w1).mono ?_
      rintro e w2 ⟨rfl, hb2, hk2⟩
      have HT2 := Lib.hid hb2
      have HK2 := Lib.hid hk2
      have HL2 := Lib.hid (HL1.out.keeps hk2 (fun _ _ _ => id))
      clear hb2 hk2
      go_upto_region 9 with fail
      have HCV : ∀ wx, Keeps (fun _ => False) w2 wx → (convert 22 9 (.slice (some ⟨b, o + m, none⟩) 4 (cap0 - m))).run Try.prog wx = .ok (.string (strOfNums (xs.drop m))) wx := by
        intro wx hk
        have h := (HL2.out.keeps hk (fun _ _ _ => id)).cut m 4
        rw [List.take_of_length_le (by rw [List.length_drop, HX.out]; omega)] at h
        exact h.str_n (P := Try.prog) 4 (by rw [List.length_drop, HX.out]; omega) 22 9 5 (cap0 - m) Try.underlying22 Try.underlying5 Try.underlying9
      have HLM : ∀ wx, Keeps (fun _ => False) w2 wx → Lies wx (some ⟨b, o, none⟩) (xs.take m) := by
        intro wx hk
        have h := (HL2.out.keeps hk (fun _ _ _ => id)).cut 0 m
        simpa using h
      obtain ⟨sB, hsB⟩ : ∃ sB, sB = strOfNums (xs.drop m) := ⟨_, rfl⟩
      obtain ⟨sA, hsA⟩ : ∃ sA, sA = strOfNums (wordAt q 4) := ⟨_, rfl⟩
      have hsr : (sA.toList == sB.toList) = r := by
        rw [← HRW.out, hsA, hsB]
        by_cases h : wordAt q 4 = xs.drop m
        · rw [h]
          simp
        · have h2 : ¬ (strOfNums (wordAt q 4)).toList = (strOfNums (xs.drop m)).toList := fun h2 => h (str_inj (wordAt_byt q 4) (HBY.out.drop m) h2)
          simp [h, h2]
      rw [← hsB] at HCV
      have HCVH := Lib.hid HCV
      have HLMH := Lib.hid HLM
      have HSA := Lib.hid hsA
      have HSR := Lib.hid hsr
      clear HCV HLM hsA hsB hsr
      go_cut [4] from 19 to 30 (fun v wx => v = .bool r ∧ Keeps (fun _ => False) w2 wx)
      case first =>
        have hk0 : Keeps (fun _ => False) w2 w2.drew := (Keeps.refl _ _).drewN 1
        have hcv0 := HCVH.out _ hk0
        have HK0 := Lib.hid hk0
        have HA := Lib.hid True.intro
        have HB' := Lib.hid True.intro
        clear hk0
        go_region_with (first
          | (have H := HA
             go_at_call 9
             refine (Cq.sum (some ⟨b, o, none⟩) m cap0 q (xs.take m) _ (HLMH.out _ HK0.out) (HBY.out.take m) (by rw [List.length_take, HX.out]; omega) (by omega) HQ.out).mono ?_
             rintro e w3 ⟨rfl, hk3⟩
             have HK3 := Lib.hid (HK0.out.trans hk3)
             have hcv3 := HCVH.out _ HK3.out
             clear hk3 HA H)
          | (have H := HB'
             go_at_call 12
             refine (Cq.word q _ hql).mono ?_
             rintro e w4 ⟨A4, c4, rfl, hv4, hk4⟩
             have HK4 := Lib.hid (HK3.out.trans hk4)
             have hcv4 := HCVH.out _ HK4.out
             have hcw := (Lies.of_own hv4).str_n (P := Try.prog) 4 (wordAt_len q 4) 22 9 5 c4 Try.underlying22 Try.underlying5 Try.underlying9
             rw [← HSA.out] at hcw
             clear hv4 hk4 HB' H))
        all_goals simp only [Act.put, List.getElem_toArray, List.getElem_cons_succ, List.getElem_cons_zero, List.setIfInBounds_toArray, List.set_cons_zero, List.set_cons_succ]
        all_goals go_wp2_with fail
        all_goals go_meet
        all_goals exact ⟨by rw [HSR.out], HK4.out⟩
      case rest =>
        obtain ⟨rfl, hk⟩ := hcut
        have HKC := Lib.hid hk
        have HTC := Lib.hid (HT2.out.keeps hk (fun h => h))
        have HLC := Lib.hid (HL2.out.keeps hk (fun _ _ _ => id))
        clear hk
        go_wp2_with fail
        refine (right w1.heap.size (m + 4) cap0 (some ⟨b, o, none⟩) xs r wc HTC.out HLC.out HBY.out HX.out hlc (by omega) HR.out).mono ?_
        rintro e w5 ⟨rfl, hk5⟩
        have HK5 : Hid (Below w.heap.size w w5) := HB1.out.trans (((HK2.out.trans HKC.out).trans hk5).below HB1.out.size (fun _ h => h.elim))
        clear hk5
        go_wp2
        go_ret
        exact ⟨by simp, HK5.out⟩
  · have hd : decide ((300 : Int) < (len0 : Int)) = true := by simp; omega
    clear w0 hlies hby
    go_enter Try.func5, Try.ntmps5
    go_wp2_with fail
    refine (Aw.awake _).mono ?_
    rintro e w1 ⟨rfl, hb⟩
    have HB := Lib.hid hb
    clear hb
    go_wp2
    go_ret
    exact ⟨rfl, HB.out⟩

set_option maxRecDepth 100000 in
theorem lifted (os : Os) (started : os.Started) (H : Type) (enc : TypeId × Value → H) :
    ReturnsInHanded {} Try.checked os 5 .any (Rows.crcRightsSpec.pre6 enc Try.prog Try.f5 Rows.crcRightsRow.domain false) (Rows.crcRightsSpec.post enc Try.prog Try.f5 false true false false) := by
  refine returnsInHanded_of_change (C := Try.checked) own started (by kernel_rfl) Try.func5
    (ChangeSpec.witness6 (enc := enc) (C := Try.checked) false ⟨#[], #[.slice none 0 0], []⟩ 8 (by kernel_rfl) (by kernel_rfl) (by kernel_rfl) (by kernel_rfl)) ?_
  intro W base args ds gs before hval0 hW hcnd _
  have hval : ∀ (j : Nat) t v, Try.f5.params[j]? = some t → args[j]? = some v → Value.okWide Try.prog W .any base t v := hval0
  have hW' := hW
  obtain ⟨p, q, hA0, hV, rfl, hfz, hnd⟩ := hW
  have hA : DataW.TrodAll enc Try.prog W 0 (fun _ => true) true Try.f5.params.toList args.toList ds p := hA0
  rw [Try.params5] at hA hval
  obtain ⟨v0, vs0, d0, ds0, p0, q0, hargs, rfl, rfl, h0, r0⟩ := trodAll_cons hA
  obtain ⟨rfl, rfl, rfl⟩ := trodAll_nil r0
  obtain rfl : args = #[v0] := by cases args; simp_all
  obtain ⟨rfl, rfl⟩ := trodVars_none hV
  obtain ⟨a0, len0, cap0, rfl⟩ := okWide_slice Try.underlying22 (hval 0 22 v0 rfl rfl)
  have k0 := h0
  have lt0 : ∀ x ∈ p0, x.block < W.heap.size := by obtain ⟨m, hm⟩ := k0; exact DataW.trod_lt m _ _ _ hm
  obtain ⟨z0, w0⟩ : ∃ zs, IsRow .u8 W a0 len0 cap0 zs := by
    obtain ⟨fuel, hf⟩ := h0
    rcases open_ints Try.underlying22 Try.underlying5 (by kernel_rfl) hf with ⟨hcs, _⟩ | ⟨x, l, c, zs, hcs, _, hl, hm, hz, _, hcell, hwz⟩
    · simp [Value.cells] at hcs
      obtain ⟨rfl, rfl, rfl⟩ := hcs
      exact ⟨[], .inl ⟨rfl, rfl, rfl, rfl⟩⟩
    · simp [Value.cells] at hcs
      obtain ⟨rfl, rfl, rfl⟩ := hcs
      exact ⟨zs, .inr ⟨_, rfl, hl, hm, by simpa using hz, hcell, hwz⟩⟩
  clear hA0 hval0
  refine (walk a0 len0 cap0 z0 W w0).mono fun e W' ⟨he, bel⟩ => ?_
  subst he
  exact ⟨_, rfl, _, _, _, [], _, [], hW', trodAll_mk1 (shut_bool Try.underlying4 _), (trodAll_cons_mk (Below.trod laidOut (by kernel_rfl) (of_decide_eq_true (by kernel_rfl)) k0 bel lt0) trodAll_mk0), rfl, bel.frame _, fun h => by cases h⟩

theorem over : Rows.crcRightsRow.holds Try.pinned (OpenSpec.ofChange Rows.crcRightsSpec) :=
  OpenClaim.holds_of_wide 5 Try.f5 rfl rfl rfl rfl rfl rfl rfl ⟨rfl, rfl, rfl, rfl, rfl⟩ rfl rfl rfl rfl rfl (by kernel_rfl) Try.func5 (by kernel_rfl)
    (of_decide_eq_true (by kernel_rfl)) (by unfold Func.isWrapper; first | (rw [if_pos (by decide +kernel)]; kernel_rfl) | (rw [if_neg (by decide +kernel)]; exact ⟨rfl, rfl⟩))
    (fun os started H enc _ => lifted os started H enc)

/-- The statement, as given. -/
theorem proved : Rows.CrcRightsSaid := over
end Go.Proofs.Ytbehchibgkgpbaa.crcRights
namespace Go.Proofs.Ytbehchibgkgpbaa
/-- The statement, as given. -/
theorem crcRights_holds : Rows.CrcRightsSaid := crcRights.proved
#print axioms crcRights_holds
end Go.Proofs.Ytbehchibgkgpbaa
