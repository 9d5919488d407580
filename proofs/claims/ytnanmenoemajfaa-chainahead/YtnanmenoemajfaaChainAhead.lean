/- The statement ChainAhead (P8.1, without the document's answer: bytes each of which is told by the one ahead are told in fewer bytes than by how often they come) holds for every input: the Go function answers true, and its arguments read as before. No conditions beyond the row's own. -/
import Derived.Test.YtnanmenoemajfaaRows
import Derived.WalkKit
import Derived.Below
import Derived.Test.YtnanmenoemajfaaAwake8
import Derived.Test.YtnanmenoemajfaaAnyApp
import Derived.Test.YtnanmenoemajfaaChAi
import Derived.Outline
import Derived.RegionTactic
import Derived.BigQuiet
import Derived.Lib.Strings
import Derived.ProofKit
import Derived.OpenShut
import Derived.ShutString
namespace Go.Proofs.Ytnanmenoemajfaa.chainAhead
open Go.ChangeShapes Go.WideShapes Go.ChangeAt Go.RowKit
open Go.ChangeMaps (open_string shut_string)
open Go.Proofs.Ytnanmenoemajfaa.Gen Go.Proofs.Ytnanmenoemajfaa.Wr Go.Proofs.Ytnanmenoemajfaa.It Go.Proofs.Ytnanmenoemajfaa.Ir Go.Proofs.Ytnanmenoemajfaa.Ib Go.Proofs.Ytnanmenoemajfaa.Fq Go.Proofs.Ytnanmenoemajfaa.Fb Go.Proofs.Ytnanmenoemajfaa.Rp Go.Proofs.Ytnanmenoemajfaa.Cp Go.Proofs.Ytnanmenoemajfaa.Cq Go.Proofs.Ytnanmenoemajfaa.Ap Go.Proofs.Ytnanmenoemajfaa.Aw8
set_option linter.unusedVariables false

theorem own : ownKnob Try.prog.godebug = none := by kernel_rfl

/-- The row, so far. -/
def fill (k N : Nat) (d : Nat) : List Int := (List.range N).map fun p => if p < d then ((p * 7 % k * 3 : Nat) : Int) else 0
theorem fill_len (k N d : Nat) : (fill k N d).length = N := by simp [fill]
theorem fill_get {k N d p : Nat} (h : p < N) : (fill k N d)[p]? = some (if p < d then ((p * 7 % k * 3 : Nat) : Int) else 0) := by
  simp only [fill, List.getElem?_map, List.getElem?_range h, Option.map_some]
theorem fill_zero (k N : Nat) : fill k N 0 = List.replicate N 0 := by
  apply List.ext_getElem?
  intro p
  by_cases h : p < N
  · rw [fill_get h, if_neg (by omega), List.getElem?_replicate, if_pos h]
  · rw [List.getElem?_eq_none (by rw [fill_len]; omega), List.getElem?_eq_none (by simp; omega)]
theorem fill_set {k N d : Nat} (h : d < N) : (fill k N d).set d ((d * 7 % k * 3 : Nat) : Int) = fill k N (d + 1) := by
  apply List.ext_getElem?
  intro p
  by_cases hp : p < N
  · by_cases he : d = p
    · subst he
      rw [List.getElem?_set_self (by rw [fill_len]; exact hp), fill_get hp, if_pos (by omega)]
    · rw [List.getElem?_set_ne he, fill_get hp, fill_get hp]
      congr 1
      by_cases hl : p < d
      · rw [if_pos hl, if_pos (by omega)]
      · rw [if_neg hl, if_neg (by omega)]
  · rw [List.getElem?_eq_none (by rw [List.length_set, fill_len]; omega), List.getElem?_eq_none (by rw [fill_len]; omega)]
theorem fill_ahd {k N : Nat} : Ch.Ahd k (fill k N N) := by
  intro p hp
  rw [fill_len] at hp
  rw [List.getD, fill_get hp, if_pos hp]
  rfl
set_option maxHeartbeats 8000000 in
set_option maxRecDepth 100000 in
theorem walk (a0 : Int) (a1 : Int) (w0 : (Lit.int .u16 a0).wf = true) (w1 : (Lit.int .u8 a1).wf = true) (w : World) :
    Calls Try.prog 5 #[.int .u16 a0, .int .u8 a1] w fun e w' => e = .returned (.bool true) ∧ Below w.heap.size w w' := by
  have hb0 := bounds_u16 w0
  have hb1 := bounds_u8 w1
  obtain ⟨n0, rfl⟩ : ∃ n : Nat, a0 = (n : Int) := ⟨a0.toNat, by omega⟩
  obtain ⟨n1, rfl⟩ : ∃ n : Nat, a1 = (n : Int) := ⟨a1.toNat, by omega⟩
  obtain ⟨j, hj⟩ : ∃ j, n1 % 12 = j := ⟨_, rfl⟩
  obtain ⟨m0, hm0⟩ : ∃ m, n0 % 1000 = m := ⟨_, rfl⟩
  have hmj : (n1 : Int) % 12 = (j : Int) := by omega
  have hmjt : Int.tmod (n1 : Int) 12 = (j : Int) := by rw [Int.tmod_eq_emod_of_nonneg (by omega)]; exact hmj
  have hmm : (n0 : Int) % 1000 = (m0 : Int) := by omega
  have hmmt : Int.tmod (n0 : Int) 1000 = (m0 : Int) := by rw [Int.tmod_eq_emod_of_nonneg (by omega)]; exact hmm
  have hj5 : j < 12 := by omega
  have hm2 : m0 < 1000 := by omega
  have hwj : IntKind.u8.wrap (j : Int) = (j : Int) := IntWalk.u8_in _ (by omega)
  have hwm : IntKind.u16.wrap (m0 : Int) = (m0 : Int) := IntWalk.u16_in _ (by omega)
  clear hj hm0 w0 w1 hb0 hb1
  go_enter Try.func5, Try.ntmps5
  go_upto_region 3 with (
    go_at_call 6
    refine (awake_ _).mono ?_
    rintro e w1 ⟨rfl, hk1⟩
    have HK1 := Lib.hid hk1
    clear hk1)
  obtain ⟨k, hk⟩ : ∃ k, 4 + j = k := ⟨_, rfl⟩
  obtain ⟨N, hN⟩ : ∃ N, 3000 + m0 = N := ⟨_, rfl⟩
  have hki : (4 : Int) + (j : Int) = (k : Int) := by omega
  have hNi : (3000 : Int) + (m0 : Int) = (N : Int) := by omega
  have hk5 : 4 ≤ k ∧ k ≤ 15 := by omega
  have hN2 : 3000 ≤ N ∧ N ≤ 3999 := by omega
  have hmk := make_all N (by omega) w1
  go_upto_region 4 with fail
  clear hmj hmjt hwj hki hj5
  go_upto_region 5 with fail
  clear hmm hmmt hwm hNi hm2 hmk
  have HB3 : Hid (Blk (w1.alloc (.cells (bc (List.replicate N 0)) 5)) w1.heap.size 5 (bc (fill k N 0))) := by rw [fill_zero]; exact Lib.hid (Blk.new _ _ _)
  have HK3 : Hid (Keeps (fun _ => False) w1 (w1.alloc (.cells (bc (List.replicate N 0)) 5))) := Lib.hid ((Keeps.refl _ _).alloc _)
  generalize w1.alloc (.cells (bc (List.replicate N 0)) 5) = W3 at HB3 HK3 ⊢
  obtain ⟨g, hg⟩ : ∃ g, w1.heap.size = g := ⟨_, rfl⟩
  have HGW : Hid (w1.heap.size = g) := Lib.hid hg
  rw [hg] at HB3 ⊢
  clear hg
  go_wp2_with fail
  go_loopw [21] (fun i wr => ∃ d : Nat, i = .int .i64 (d : Int) ∧ d ≤ N ∧ Hid (Blk wr g 5 (bc (fill k N d)) ∧ Keeps (fun _ => False) w1 wr)) (fun i _ => N - (intOf i).toNat)
  case atStart => exact ⟨0, rfl, by omega, Lib.hid ⟨HB3.out, HK3.out⟩⟩
  case round =>
    clear HB3 HK3
    obtain ⟨d, rfl, hd, HH⟩ := hrel
    by_cases hlt : d < N
    · obtain ⟨r, hr⟩ : ∃ r, d * 7 % k = r := ⟨_, rfl⟩
      have hr5 : r < 15 := by have := Nat.mod_lt (d * 7) (show 0 < k by omega); omega
      have hri : (d : Int) * 7 % (k : Int) = (r : Int) := by rw [← hr]; push_cast; rfl
      have hrt : Int.tmod ((d : Int) * 7) (k : Int) = (r : Int) := by rw [Int.tmod_eq_emod_of_nonneg (by omega)]; exact hri
      have hk0 : ¬ (k : Int) = 0 := by omega
      have hk1 : ((k : Int) == 0) = false := by simpa using hk0
      have hwd : IntKind.i64.wrap ((d : Int) * 7) = (d : Int) * 7 := IntWalk.i64_in _ (by omega)
      have hwr : IntKind.i64.wrap (r : Int) = (r : Int) := IntWalk.i64_in _ (by omega)
      have hwr3 : IntKind.i64.wrap ((r : Int) * 3) = (r : Int) * 3 := IntWalk.i64_in _ (by omega)
      have hw8 : IntKind.u8.wrap ((r : Int) * 3) = (r : Int) * 3 := IntWalk.u8_in _ (by omega)
      have hc : wr.cell? ⟨g, d, none⟩ = some (.int .u8 ((fill k N d).getD d 0)) := by rw [HH.out.1.cell, bc_get (by rw [fill_len]; exact hlt)]
      generalize (fill k N d).getD d 0 = old at hc
      have hf := HH.out.1.frozen d
      have hd0 : (0 : Int) ≤ (d : Int) := by omega
      have hd1 : (d : Int) < (N : Int) := by omega
      have HF : Hid ((fill k N d).set d ((r : Int) * 3) = fill k N (d + 1)) := by
        have := fill_set (k := k) hlt
        rw [hr] at this
        rw [← this]
        exact Lib.hid (by push_cast; rfl)
      clear hr
      go_wp2
      refine ⟨⟨d + 1, by go_num, by omega, Lib.hid ⟨?_, HH.out.2.setCell (p := ⟨g, d, none⟩) (.inr (by rw [HGW.out]; exact Nat.le_refl _)) _⟩⟩, by simp [intOf]; omega⟩
      rw [← HF.out, ← bc_set]
      exact HH.out.1.setCell d _
    · obtain rfl : d = N := by omega
      have hge : ¬ ((d : Int) < (d : Int)) := by omega
      have HT : Hid (Ch.Ahd k (fill k d d)) := Lib.hid fill_ahd
      have hln := fill_len k d d
      have HLI := Lib.hid (blk_lies HH.out.1)
      have HKB := Lib.hid HH.out.2
      obtain ⟨b, hb⟩ : ∃ b, fill k d d = b := ⟨_, rfl⟩
      rw [hb] at HT hln HLI
      have hby := Ch.ahd_byte hk5.1 hk5.2 HT.out
      have hpk := Ch.pk_ahead (n := d) hk5.1 hk5.2 hln (by omega) (by omega) HT.out
      obtain ⟨m, hm⟩ : ∃ m, (Ch.pk b).length = m := ⟨_, rfl⟩
      rw [hm] at hpk
      have HPU := Lib.hid (fun W h => put_ (some ⟨g, 0, none⟩) d d m b W h hln (Nat.le_refl _) (by omega) hby hm)
      obtain ⟨d3, hd3⟩ : ∃ d3, d / 3 = d3 := ⟨_, rfl⟩
      have hq3 : (d : Int) / 3 = (d3 : Int) := by omega
      have hqt : Int.tdiv (d : Int) 3 = (d3 : Int) := by rw [Int.tdiv_eq_ediv_of_nonneg (by omega)]; exact hq3
      have hwq : IntKind.i64.wrap (d3 : Int) = (d3 : Int) := IntWalk.i64_in _ (by omega)
      have hm3 : decide ((m : Int) < (d3 : Int)) = true := by rw [decide_eq_true_iff]; omega
      have hm3' : (m : Int) < (d3 : Int) := by omega
      have hm400 : decide ((m : Int) ≤ 400) = true := by rw [decide_eq_true_iff]; omega
      clear hm hln hby hb HH hlt HT hd3
      go_wp2_with (first
        | (have H1 := HLI
           go_at_call 7
           refine (HPU.out _ HLI.out).mono ?_
           rintro e w4 ⟨A4, c4, rfl, hv4, hk4⟩
           have HK4 := Lib.hid (HKB.out.trans hk4)
           have HLJ := Lib.hid (HLI.out.keeps hk4 (fun _ _ _ => id))
           clear hv4 hk4 H1 HLI)
        | (have H1 := HLJ
           go_at_call 7
           refine (HPU.out _ HLJ.out).mono ?_
           rintro e w5 ⟨A5, c5, rfl, hv5, hk5'⟩
           have HK5 := Lib.hid (HK4.out.trans hk5')
           clear hv5 hk5' H1 HLJ))
      go_ret
      exact ⟨rfl, (HK1.out.trans HK5.out).below (Nat.le_refl _) (fun _ h => h.elim)⟩
  -- go_enter Try.func5, Try.ntmps5
  -- go_wp2
  -- go_ret
  -- exact ⟨rfl, by repeat (first | exact Grown.refl _ | apply Grown.drew | apply Grown.alloc)⟩

set_option maxRecDepth 100000 in
theorem lifted (os : Os) (started : os.Started) (H : Type) (enc : TypeId × Value → H) :
    ReturnsInHanded {} Try.checked os 5 .any (Rows.chainAheadSpec.pre6 enc Try.prog Try.f5 Rows.chainAheadRow.domain false) (Rows.chainAheadSpec.post enc Try.prog Try.f5 false true false false) := by
  refine returnsInHanded_of_change (C := Try.checked) own started (by kernel_rfl) Try.func5
    (ChangeSpec.witness6 (enc := enc) (C := Try.checked) false ⟨#[], #[.int .u16 0, .int .u8 0], []⟩ 8 (by kernel_rfl) (by kernel_rfl) (by kernel_rfl) (by kernel_rfl)) ?_
  intro W base args ds gs before hval0 hW hcnd _
  have hval : ∀ (j : Nat) t v, Try.f5.params[j]? = some t → args[j]? = some v → Value.okWide Try.prog W .any base t v := hval0
  have hW' := hW
  obtain ⟨p, q, hA0, hV, rfl, hfz, hnd⟩ := hW
  have hA : DataW.TrodAll enc Try.prog W 0 (fun _ => true) true Try.f5.params.toList args.toList ds p := hA0
  rw [Try.params5] at hA hval
  obtain ⟨v0, vs0, d0, ds0, p0, q0, hargs, rfl, rfl, h0, r0⟩ := trodAll_cons hA
  obtain ⟨v1, vs1, d1, ds1, p1, q1, rfl, rfl, rfl, h1, r1⟩ := trodAll_cons r0
  obtain ⟨rfl, rfl, rfl⟩ := trodAll_nil r1
  obtain rfl : args = #[v0, v1] := by cases args; simp_all
  obtain ⟨rfl, rfl⟩ := trodVars_none hV
  obtain ⟨a0, rfl, rfl, rfl, w0⟩ := open_int Try.underlying23 (hval 0 23 v0 rfl rfl) h0
  obtain ⟨a1, rfl, rfl, rfl, w1⟩ := open_int Try.underlying5 (hval 1 5 v1 rfl rfl) h1
  clear hA0 hval0
  refine (walk a0 a1 w0 w1 W).mono fun e W' ⟨he, bel⟩ => ?_
  subst he
  exact ⟨_, rfl, _, _, _, [], _, [], hW', trodAll_mk1 (shut_bool Try.underlying4 _), (trodAll_cons_mk (shut_int Try.underlying23 w0) (trodAll_cons_mk (shut_int Try.underlying5 w1) trodAll_mk0)), rfl, bel.frame _, fun h => by cases h⟩

theorem over : Rows.chainAheadRow.holds Try.pinned (OpenSpec.ofChange Rows.chainAheadSpec) :=
  OpenClaim.holds_of_wide 5 Try.f5 rfl rfl rfl rfl rfl rfl rfl ⟨rfl, rfl, rfl, rfl, rfl⟩ rfl rfl rfl rfl rfl (by kernel_rfl) Try.func5 (by kernel_rfl)
    (of_decide_eq_true (by kernel_rfl)) (by unfold Func.isWrapper; first | (rw [if_pos (by decide +kernel)]; kernel_rfl) | (rw [if_neg (by decide +kernel)]; exact ⟨rfl, rfl⟩))
    (fun os started H enc _ => lifted os started H enc)

/-- The statement, as given. -/
theorem proved : Rows.ChainAheadSaid :=
  over
end Go.Proofs.Ytnanmenoemajfaa.chainAhead
namespace Go.Proofs.Ytnanmenoemajfaa
/-- The statement, as given. -/
theorem chainAhead_holds : Rows.ChainAheadSaid := chainAhead.proved
#print axioms chainAhead_holds
end Go.Proofs.Ytnanmenoemajfaa
