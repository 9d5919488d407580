/- The statement ChainTurns (P8.1, without the document's answer: bytes that go round and round are told in few bytes, however many rounds there are) holds for every input: the Go function answers true, and its arguments read as before. No conditions beyond the row's own. -/
import Derived.Test.YtnanmenoemajfaaRows
import Derived.WalkKit
import Derived.Below
import Derived.Test.YtnanmenoemajfaaAwake8
import Derived.Test.YtnanmenoemajfaaAnyApp
import Derived.Test.YtnanmenoemajfaaChTu
import Derived.Outline
import Derived.RegionTactic
import Derived.BigQuiet
import Derived.Lib.Strings
import Derived.ProofKit
import Derived.OpenShut
import Derived.ShutString
namespace Go.Proofs.Ytnanmenoemajfaa.chainTurns
open Go.ChangeShapes Go.WideShapes Go.ChangeAt Go.RowKit
open Go.ChangeMaps (open_string shut_string)
open Go.Proofs.Ytnanmenoemajfaa.Gen Go.Proofs.Ytnanmenoemajfaa.Wr Go.Proofs.Ytnanmenoemajfaa.It Go.Proofs.Ytnanmenoemajfaa.Ir Go.Proofs.Ytnanmenoemajfaa.Ib Go.Proofs.Ytnanmenoemajfaa.Fq Go.Proofs.Ytnanmenoemajfaa.Fb Go.Proofs.Ytnanmenoemajfaa.Rp Go.Proofs.Ytnanmenoemajfaa.Cp Go.Proofs.Ytnanmenoemajfaa.Cq Go.Proofs.Ytnanmenoemajfaa.Ap Go.Proofs.Ytnanmenoemajfaa.Aw8
set_option linter.unusedVariables false

theorem own : ownKnob Try.prog.godebug = none := by kernel_rfl

/-- The row, so far. -/
def fill (k N : Nat) (d : Nat) : List Int := (List.range N).map fun p => if p < d then ((1 + p % k : Nat) : Int) else 0
theorem fill_len (k N d : Nat) : (fill k N d).length = N := by simp [fill]
theorem fill_get {k N d p : Nat} (h : p < N) : (fill k N d)[p]? = some (if p < d then ((1 + p % k : Nat) : Int) else 0) := by
  simp only [fill, List.getElem?_map, List.getElem?_range h, Option.map_some]
theorem fill_zero (k N : Nat) : fill k N 0 = List.replicate N 0 := by
  apply List.ext_getElem?
  intro p
  by_cases h : p < N
  · rw [fill_get h, if_neg (by omega), List.getElem?_replicate, if_pos h]
  · rw [List.getElem?_eq_none (by rw [fill_len]; omega), List.getElem?_eq_none (by simp; omega)]
theorem fill_set {k N d : Nat} (h : d < N) : (fill k N d).set d ((1 + d % k : Nat) : Int) = fill k N (d + 1) := by
  apply List.ext_getElem?
  intro p
  by_cases hp : p < N
  · by_cases he : d = p
    · subst he
      rw [List.getElem?_set_self (by rw [fill_len]; exact hp), fill_get hp, if_pos (by omega)]
    · rw [List.getElem?_set_ne he, fill_get hp, fill_get hp]
      congr 1
      by_cases hl : p < d
      · rw [if_pos hl, if_pos (by omega)]
      · rw [if_neg hl, if_neg (by omega)]
  · rw [List.getElem?_eq_none (by rw [List.length_set, fill_len]; omega), List.getElem?_eq_none (by rw [fill_len]; omega)]
theorem fill_turns {k N : Nat} : Ch.Turns k (fill k N N) := by
  intro p hp
  rw [fill_len] at hp
  rw [List.getD, fill_get hp, if_pos hp]
  rfl
set_option maxHeartbeats 8000000 in
set_option maxRecDepth 100000 in
theorem walk (a0 : Int) (a1 : Int) (w0 : (Lit.int .u16 a0).wf = true) (w1 : (Lit.int .u8 a1).wf = true) (w : World) :
    Calls Try.prog 4 #[.int .u16 a0, .int .u8 a1] w fun e w' => e = .returned (.bool true) ∧ Below w.heap.size w w' := by
  have hb0 := bounds_u16 w0
  have hb1 := bounds_u8 w1
  obtain ⟨n0, rfl⟩ : ∃ n : Nat, a0 = (n : Int) := ⟨a0.toNat, by omega⟩
  obtain ⟨n1, rfl⟩ : ∃ n : Nat, a1 = (n : Int) := ⟨a1.toNat, by omega⟩
  obtain ⟨j, hj⟩ : ∃ j, n1 % 5 = j := ⟨_, rfl⟩
  obtain ⟨m0, hm0⟩ : ∃ m, n0 % 2000 = m := ⟨_, rfl⟩
  have hmj : (n1 : Int) % 5 = (j : Int) := by omega
  have hmjt : Int.tmod (n1 : Int) 5 = (j : Int) := by rw [Int.tmod_eq_emod_of_nonneg (by omega)]; exact hmj
  have hmm : (n0 : Int) % 2000 = (m0 : Int) := by omega
  have hmmt : Int.tmod (n0 : Int) 2000 = (m0 : Int) := by rw [Int.tmod_eq_emod_of_nonneg (by omega)]; exact hmm
  have hj5 : j < 5 := by omega
  have hm2 : m0 < 2000 := by omega
  have hwj : IntKind.u8.wrap (j : Int) = (j : Int) := IntWalk.u8_in _ (by omega)
  have hwm : IntKind.u16.wrap (m0 : Int) = (m0 : Int) := IntWalk.u16_in _ (by omega)
  clear hj hm0 w0 w1 hb0 hb1
  go_enter Try.func4, Try.ntmps4
  go_upto_region 3 with (
    go_at_call 6
    refine (awake_ _).mono ?_
    rintro e w1 ⟨rfl, hk1⟩
    have HK1 := Lib.hid hk1
    clear hk1)
  obtain ⟨k, hk⟩ : ∃ k, 1 + j = k := ⟨_, rfl⟩
  obtain ⟨N, hN⟩ : ∃ N, 200 + m0 = N := ⟨_, rfl⟩
  have hki : (1 : Int) + (j : Int) = (k : Int) := by omega
  have hNi : (200 : Int) + (m0 : Int) = (N : Int) := by omega
  have hk5 : 1 ≤ k ∧ k ≤ 5 := by omega
  have hN2 : 200 ≤ N ∧ N ≤ 2199 := by omega
  have hmk := make_all N (by omega) w1
  go_upto_region 4 with fail
  clear hmj hmjt hwj hki hj5
  go_upto_region 5 with fail
  clear hmm hmmt hwm hNi hm2 hmk
  have HB3 : Hid (Blk (w1.alloc (.cells (bc (List.replicate N 0)) 5)) w1.heap.size 5 (bc (fill k N 0))) := by rw [fill_zero]; exact Lib.hid (Blk.new _ _ _)
  have HK3 : Hid (Keeps (fun _ => False) w1 (w1.alloc (.cells (bc (List.replicate N 0)) 5))) := Lib.hid ((Keeps.refl _ _).alloc _)
  generalize w1.alloc (.cells (bc (List.replicate N 0)) 5) = W3 at HB3 HK3 ⊢
  obtain ⟨g, hg⟩ : ∃ g, w1.heap.size = g := ⟨_, rfl⟩
  have HGW : Hid (w1.heap.size = g) := Lib.hid hg
  rw [hg] at HB3 ⊢
  clear hg
  go_wp2_with fail
  go_loopw [24] (fun i wr => ∃ d : Nat, i = .int .i64 (d : Int) ∧ d ≤ N ∧ Hid (Blk wr g 5 (bc (fill k N d)) ∧ Keeps (fun _ => False) w1 wr)) (fun i _ => N - (intOf i).toNat)
  case atStart => exact ⟨0, rfl, by omega, Lib.hid ⟨HB3.out, HK3.out⟩⟩
  case round =>
    clear HB3 HK3
    obtain ⟨d, rfl, hd, HH⟩ := hrel
    by_cases hlt : d < N
    · obtain ⟨r, hr⟩ : ∃ r, d % k = r := ⟨_, rfl⟩
      have hr5 : r < 5 := by have := Nat.mod_lt d (show 0 < k by omega); omega
      have hri : (d : Int) % (k : Int) = (r : Int) := by rw [← hr]; omega
      have hrt : Int.tmod (d : Int) (k : Int) = (r : Int) := by rw [Int.tmod_eq_emod_of_nonneg (by omega)]; exact hri
      have hk0 : ¬ (k : Int) = 0 := by omega
      have hk1 : ((k : Int) == 0) = false := by simpa using hk0
      have hwr : IntKind.i64.wrap (r : Int) = (r : Int) := IntWalk.i64_in _ (by omega)
      have hw8 : IntKind.u8.wrap (1 + (r : Int)) = 1 + (r : Int) := IntWalk.u8_in _ (by omega)
      have hc : wr.cell? ⟨g, d, none⟩ = some (.int .u8 ((fill k N d).getD d 0)) := by rw [HH.out.1.cell, bc_get (by rw [fill_len]; exact hlt)]
      generalize (fill k N d).getD d 0 = old at hc
      have hf := HH.out.1.frozen d
      have hd0 : (0 : Int) ≤ (d : Int) := by omega
      have hd1 : (d : Int) < (N : Int) := by omega
      have HF : Hid ((fill k N d).set d (1 + (r : Int)) = fill k N (d + 1)) := by
        have := fill_set (k := k) hlt
        rw [hr] at this
        rw [← this]
        exact Lib.hid (by push_cast; rfl)
      clear hr
      go_wp2
      refine ⟨⟨d + 1, by go_num, by omega, Lib.hid ⟨?_, HH.out.2.setCell (p := ⟨g, d, none⟩) (.inr (by rw [HGW.out]; exact Nat.le_refl _)) _⟩⟩, by simp [intOf]; omega⟩
      rw [← HF.out, ← bc_set]
      exact HH.out.1.setCell d _
    · obtain rfl : d = N := by omega
      have hge : ¬ ((d : Int) < (d : Int)) := by omega
      have HT : Hid (Ch.Turns k (fill k d d)) := Lib.hid fill_turns
      have hln := fill_len k d d
      have HLI := Lib.hid (blk_lies HH.out.1)
      have HKB := Lib.hid HH.out.2
      obtain ⟨b, hb⟩ : ∃ b, fill k d d = b := ⟨_, rfl⟩
      rw [hb] at HT hln HLI
      have hby := Ch.turn_byte hk5.1 hk5.2 HT.out
      have hpk := Ch.pk_turn (n := d) hk5.1 hk5.2 hln (by omega) (by rintro rfl; simp at hln; omega) HT.out
      have hpb := Ch.pk_byte hby (by omega)
      have HTB := Lib.hid (back b (d : Int) (d : Int) hby (by omega) (by omega) (by omega))
      obtain ⟨m, hm⟩ : ∃ m, (Ch.pk b).length = m := ⟨_, rfl⟩
      rw [hm] at hpk
      have HPU := Lib.hid (fun W h => put_ (some ⟨g, 0, none⟩) d d m b W h hln (Nat.le_refl _) (by omega) hby hm)
      have HM := Lib.hid hm
      have HPB := Lib.hid hpb
      have HLN := Lib.hid hln
      obtain ⟨sB, hsB⟩ : ∃ s, s = strOfNums b := ⟨_, rfl⟩
      have HSB := Lib.hid hsB
      clear hm hpb hln hby hsB hb HH hlt HT
      go_upto_region 11 with (
        go_at_call 7
        refine (HPU.out _ HLI.out).mono ?_
        rintro e w4 ⟨A4, c4, rfl, hv4, hk4⟩
        have HV4 := Lib.hid (Lies.of_own hv4)
        have HK4 := Lib.hid (HKB.out.trans hk4)
        have HLJ := Lib.hid (HLI.out.keeps hk4 (fun _ _ _ => id))
        clear hv4 hk4 HPU HLI)
      have HTK := Lib.hid (take_ A4 m c4 (Ch.pk b) (d : Int) (d : Int) w4 HM.out HV4.out (by omega) HPB.out (by omega) (by omega))
      rw [HTB.out] at HTK
      go_upto_region 12 with (
        go_at_call 8
        refine HTK.out.mono ?_
        rintro e w5 ⟨A5, k5, c5, rfl, hl5, hlc5, hli5, hk5'⟩
        have HK5 := Lib.hid (HK4.out.trans hk5')
        have HL5 := Lib.hid hli5
        have HLK := Lib.hid (HLJ.out.keeps hk5' (fun _ _ _ => id))
        have HN5 := Lib.hid hl5
        clear hl5 hlc5 hli5 hk5' HTK)
      obtain rfl : k5 = d := by rw [← HN5.out, ← HLN.out]
      have hc1 := HL5.out.str_n (P := Try.prog) k5 HLN.out 22 9 5 c5 Try.underlying22 Try.underlying5 Try.underlying9
      have hc2 := HLK.out.str_n (P := Try.prog) k5 HLN.out 22 9 5 k5 Try.underlying22 Try.underlying5 Try.underlying9
      rw [← HSB.out] at hc1 hc2
      have hm120 : decide ((m : Int) ≤ 120) = true := by rw [decide_eq_true_iff]; omega
      go_wp2
      go_ret
      exact ⟨rfl, (HK1.out.trans HK5.out).below (Nat.le_refl _) (fun _ h => h.elim)⟩
  -- go_enter Try.func4, Try.ntmps4
  -- go_wp2
  -- go_ret
  -- exact ⟨rfl, by repeat (first | exact Grown.refl _ | apply Grown.drew | apply Grown.alloc)⟩

set_option maxRecDepth 100000 in
theorem lifted (os : Os) (started : os.Started) (H : Type) (enc : TypeId × Value → H) :
    ReturnsInHanded {} Try.checked os 4 .any (Rows.chainTurnsSpec.pre6 enc Try.prog Try.f4 Rows.chainTurnsRow.domain false) (Rows.chainTurnsSpec.post enc Try.prog Try.f4 false true false false) := by
  refine returnsInHanded_of_change (C := Try.checked) own started (by kernel_rfl) Try.func4
    (ChangeSpec.witness6 (enc := enc) (C := Try.checked) false ⟨#[], #[.int .u16 0, .int .u8 0], []⟩ 8 (by kernel_rfl) (by kernel_rfl) (by kernel_rfl) (by kernel_rfl)) ?_
  intro W base args ds gs before hval0 hW hcnd _
  have hval : ∀ (j : Nat) t v, Try.f4.params[j]? = some t → args[j]? = some v → Value.okWide Try.prog W .any base t v := hval0
  have hW' := hW
  obtain ⟨p, q, hA0, hV, rfl, hfz, hnd⟩ := hW
  have hA : DataW.TrodAll enc Try.prog W 0 (fun _ => true) true Try.f4.params.toList args.toList ds p := hA0
  rw [Try.params4] at hA hval
  obtain ⟨v0, vs0, d0, ds0, p0, q0, hargs, rfl, rfl, h0, r0⟩ := trodAll_cons hA
  obtain ⟨v1, vs1, d1, ds1, p1, q1, rfl, rfl, rfl, h1, r1⟩ := trodAll_cons r0
  obtain ⟨rfl, rfl, rfl⟩ := trodAll_nil r1
  obtain rfl : args = #[v0, v1] := by cases args; simp_all
  obtain ⟨rfl, rfl⟩ := trodVars_none hV
  obtain ⟨a0, rfl, rfl, rfl, w0⟩ := open_int Try.underlying23 (hval 0 23 v0 rfl rfl) h0
  obtain ⟨a1, rfl, rfl, rfl, w1⟩ := open_int Try.underlying5 (hval 1 5 v1 rfl rfl) h1
  clear hA0 hval0
  refine (walk a0 a1 w0 w1 W).mono fun e W' ⟨he, bel⟩ => ?_
  subst he
  exact ⟨_, rfl, _, _, _, [], _, [], hW', trodAll_mk1 (shut_bool Try.underlying4 _), (trodAll_cons_mk (shut_int Try.underlying23 w0) (trodAll_cons_mk (shut_int Try.underlying5 w1) trodAll_mk0)), rfl, bel.frame _, fun h => by cases h⟩

theorem over : Rows.chainTurnsRow.holds Try.pinned (OpenSpec.ofChange Rows.chainTurnsSpec) :=
  OpenClaim.holds_of_wide 4 Try.f4 rfl rfl rfl rfl rfl rfl rfl ⟨rfl, rfl, rfl, rfl, rfl⟩ rfl rfl rfl rfl rfl (by kernel_rfl) Try.func4 (by kernel_rfl)
    (of_decide_eq_true (by kernel_rfl)) (by unfold Func.isWrapper; first | (rw [if_pos (by decide +kernel)]; kernel_rfl) | (rw [if_neg (by decide +kernel)]; exact ⟨rfl, rfl⟩))
    (fun os started H enc _ => lifted os started H enc)

/-- The statement, as given. -/
theorem proved : Rows.ChainTurnsSaid :=
  over
end Go.Proofs.Ytnanmenoemajfaa.chainTurns
namespace Go.Proofs.Ytnanmenoemajfaa
/-- The statement, as given. -/
theorem chainTurns_holds : Rows.ChainTurnsSaid := chainTurns.proved
#print axioms chainTurns_holds
end Go.Proofs.Ytnanmenoemajfaa
