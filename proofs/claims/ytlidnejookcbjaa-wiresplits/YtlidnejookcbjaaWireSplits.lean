/- The statement WireSplits (P1.1, bytes taken in two pieces and up to a byte) holds for every input: the Go function answers true, and its arguments read as before. No conditions beyond the row's own. -/
import Derived.Test.YtlidnejookcbjaaRows
import Derived.WalkKit
import Derived.ProofKit
import Derived.OpenShut
import Derived.ShutString
import Derived.ChangeOld
import Derived.Below
import Derived.Test.YtlidnejookcbjaaWireTake
import Derived.Test.YtlidnejookcbjaaAwake1
import Derived.Outline
namespace Go.Proofs.Ytlidnejookcbjaa.wireSplits
open Go.ChangeShapes Go.WideShapes Go.ChangeAt Go.RowKit
open Go.ChangeMaps (open_string shut_string)
open Go.Proofs.Ytlidnejookcbjaa.Gen Go.Proofs.Ytlidnejookcbjaa.Wr
set_option linter.unusedVariables false

theorem own : ownKnob Try.prog.godebug = none := by kernel_rfl
theorem laidOut : laidOutB Try.prog = true := by kernel_rfl

/-- WHAT THE WALK IS TOLD OF A SLICE OF INTEGERS THAT CAME IN: it is nil; or it leads to a row of 'cap' cells, the numbers 'zs' (the first 'len' are its elements, the rest its spare room), each fitting its kind. -/
def IsRow (k : IntKind) (w : World) (a : Option Addr) (len cap : Nat) (zs : List Int) : Prop :=
  (a = none ∧ len = 0 ∧ cap = 0 ∧ zs = []) ∨
  ∃ x, a = some x ∧ len ≤ cap ∧ cap ≤ maxLen ∧ zs.length = cap ∧ (∀ i, i < zs.length → w.cell? (x.add i) = some (.int k (zs.getD i 0))) ∧ ∀ n ∈ zs, (Lit.int k n).wf = true


set_option maxHeartbeats 1000000 in
set_option maxRecDepth 100000 in
theorem walk (a0 : Option Addr) (len0 cap0 : Nat) (z0 : List Int) (a1 : Int) (a2 : Int) (w : World) (w0 : IsRow .u8 w a0 len0 cap0 z0) (w1 : (Lit.int .u16 a1).wf = true) (w2 : (Lit.int .u8 a2).wf = true) :
    Calls Try.prog 5 #[.slice a0 len0 cap0, .int .u16 a1, .int .u8 a2] w fun e w' => e = .returned (.bool true) ∧ Below w.heap.size w w' := by
  obtain ⟨hxl, hlc, hlies, hby⟩ := row_lies w0
  have hcv := bounds_u8 w2
  have hcut := bounds_u16 w1
  by_cases hl : len0 ≤ 300
  · have hd : decide ((300 : Int) < (len0 : Int)) = false := by simp; omega
    obtain ⟨xs, hxs⟩ : ∃ xs, xs = z0.take len0 := ⟨_, rfl⟩
    rw [← hxs] at hxl hlies hby
    obtain ⟨k, hk⟩ : ∃ k : Nat, a1 % ((len0 : Int) + 1) = (k : Int) ∧ k ≤ len0 := by
      have h1 := Int.emod_nonneg a1 (show ((len0 : Int) + 1) ≠ 0 by omega)
      have h2 := Int.emod_lt_of_pos a1 (show (0 : Int) < (len0 : Int) + 1 by omega)
      exact ⟨(a1 % ((len0 : Int) + 1)).toNat, by omega, by omega⟩
    have hkm := hk.1
    have hkl := hk.2
    have HX := Lib.hid hxl
    have HL := Lib.hid hlies
    have HB := Lib.hid hby
    clear hk hxs hxl hlies hby w0
    go_enter Try.func5, Try.ntmps5
    go_wp2_with fail
    refine (Aw.awake _).mono ?_
    rintro e w1 ⟨rfl, hb1⟩
    have HB1 := Lib.hid hb1
    clear hb1
    go_wp2_with fail
    rw [hkm]
    clear hkm
    have HL1 := Lib.hid (HL.out.below HB1.out)
    refine (read_n _ _ _ xs _ HX.out HL1.out (by omega) HB.out).mono ?_
    rintro e w2 ⟨g1, rfl, hr, hk2⟩
    have HR := Lib.hid hr
    have HK2 := Lib.hid hk2
    have HL2 := Lib.hid (HL1.out.keeps hk2 (fun _ _ _ => id))
    clear hr hk2
    go_wp2_with fail
    refine (read_n _ _ _ xs _ HX.out HL2.out (by omega) HB.out).mono ?_
    rintro e w3 ⟨g2, rfl, hs, hk3⟩
    have HS := Lib.hid hs
    have HK3 := Lib.hid hk3
    have HR3 := Lib.hid (HR.out.keeps hk3 (fun _ _ => id))
    have HL3 := Lib.hid (HL2.out.keeps hk3 (fun _ _ _ => id))
    have hne : g1 ≠ g2 := by have := HR.out.lt; have := hs.1; omega
    have HNE := Lib.hid hne
    clear hs hk3 hne
    go_wp2_with fail
    refine (bytes_yes g1 _ _ k _ HR3.out rfl (by show 0 + k ≤ xs.length; rw [HX.out]; omega)).mono ?_
    rintro e w4 ⟨A4, c4, rfl, hv4, hr4, hk4⟩
    have HV4 := Lib.hid hv4
    have HR4 := Lib.hid hr4
    have HK4 := Lib.hid hk4
    clear hv4 hr4 hk4
    go_wp2_with fail
    rw [show ((len0 : Int) - (k : Int)) = ((len0 - k : Nat) : Int) by omega]
    refine (bytes_yes g1 _ _ (len0 - k) _ HR4.out rfl (by show 0 + k + (len0 - k) ≤ xs.length; rw [HX.out]; omega)).mono ?_
    rintro e w5 ⟨A5, c5, rfl, hv5, hr5, hk5⟩
    have HV5 := Lib.hid hv5
    have HR5 := Lib.hid hr5
    have HK5 := Lib.hid hk5
    have HS4 := Lib.hid (HS.out.apart HR3.out (Ne.symm HNE.out) HK4.out)
    have HS5 := Lib.hid (HS4.out.apart HR4.out (Ne.symm HNE.out) hk5)
    clear hv5 hr5 hk5
    go_wp2_with fail
    refine (until_ g2 _ _ a2 _ HS5.out (by omega)).mono ?_
    rintro e w6 ⟨A6, c6, rfl, hv6, hr6, hk6⟩
    have HR6 := Lib.hid (HR5.out.apart HS5.out HNE.out hk6)
    have HS6 := Lib.hid hr6
    have HV6 := Lib.hid hv6
    have B3 : Below w.heap.size w w3 := (HB1.out.trans (HK2.out.below HB1.out.size (fun _ h => h.elim))).trans (HK3.out.below (Nat.le_trans HB1.out.size HK2.out.size) (fun _ h => h.elim))
    have hg1 : w.heap.size ≤ g1 := Nat.le_trans HB1.out.size HR.out.1
    have hg2 : w.heap.size ≤ g2 := Nat.le_trans (Nat.le_trans HB1.out.size HK2.out.size) HS.out.1
    have B4 : Below w.heap.size w w4 := B3.trans (HK4.out.below B3.size (fun k h => by omega))
    have B5 : Below w.heap.size w w5 := B4.trans (HK5.out.below B4.size (fun k h => by omega))
    have B6 : Below w.heap.size w w6 := B5.trans (hk6.below B5.size (fun k h => by omega))
    have l1 : g1 < w3.heap.size := HR3.out.lt
    have l2 : g2 < w3.heap.size := HS.out.lt
    have L4 : Lies w6 A4 (xs.take k) := Lies.of_own (own_keeps (own_keeps HV4.out HK5.out (fun b hb e => by have := (HV4.out.lt b hb).1; omega)) hk6 (fun b hb e => by have := (HV4.out.lt b hb).1; omega))
    have L5 : Lies w6 A5 (xs.drop k) := by
      have := Lies.of_own (own_keeps HV5.out hk6 (fun b hb e => by have := (HV5.out.lt b hb).1; have := HK4.out.size; omega))
      simp only [Nat.zero_add] at this
      rwa [List.take_of_length_le (by simp [HX.out])] at this
    have c1 := L4.str_n (P := Try.prog) k (by simp [HX.out]; omega) 23 9 5 c4 Try.underlying23 Try.underlying5 Try.underlying9
    have c2 := L5.str_n (P := Try.prog) (len0 - k) (by simp [HX.out]) 23 9 5 c5 Try.underlying23 Try.underlying5 Try.underlying9
    have c3 := (HL.out.below B6).str_n (P := Try.prog) len0 HX.out 23 9 5 cap0 Try.underlying23 Try.underlying5 Try.underlying9
    have hcat := str_append (xs.take k) (xs.drop k)
    rw [List.take_append_drop] at hcat
    have HC := Lib.hid hcat
    have hz : (strOfNums (xs.take k)).size + (strOfNums (xs.drop k)).size ≤ 300 := by simp [strOfNums_size, HX.out]; omega
    obtain ⟨S1, hS1⟩ : ∃ S, S = strOfNums (xs.take k) := ⟨_, rfl⟩
    obtain ⟨S2, hS2⟩ : ∃ S, S = strOfNums (xs.drop k) := ⟨_, rfl⟩
    obtain ⟨S3, hS3⟩ : ∃ S, S = strOfNums xs := ⟨_, rfl⟩
    rw [← hS1] at c1 hz hcat
    rw [← hS2] at c2 hz hcat
    rw [← hS3] at c3 hcat
    have HS3 := Lib.hid hS3
    have HB6 := Lib.hid B6
    obtain ⟨n6, hn6⟩ : ∃ n, (RS.upto ⟨xs, 0, 0⟩ a2).1.length = n := ⟨_, rfl⟩
    rw [hn6] at HV6 ⊢
    have HN6 := Lib.hid hn6
    clear hS1 hS2 hS3 L4 L5 B3 B4 B5 B6 l1 l2 hg1 hg2 hk6 hr6 hv6 HC hn6
    go_wp2_with fail
    have hfin : RS.fin ⟨xs, 0 + k + (len0 - k), 0⟩ = 0 := by
      have := HX.out
      unfold RS.fin
      rw [if_neg (by simp; omega)]
    refine (end_ g1 _ _ _ HR6.out).mono ?_
    rintro e w7 ⟨rfl, hw7⟩
    rw [hfin]
    have HS7 : Hid (IsRd w2.heap.size g2 (RS.upto ⟨xs, 0, 0⟩ a2).2 w7) := by obtain ⟨q, rfl⟩ := hw7; exact HS6.out.drewN q
    have HB7 : Hid (Below w.heap.size w w7) := by obtain ⟨q, rfl⟩ := hw7; exact below_drewN HB6.out q
    have HV7 : Hid (w7.ownsRow w5.heap.size 5 1 (.slice A6 n6 c6) n6 (bv (RS.upto ⟨xs, 0, 0⟩ a2).1)) := by obtain ⟨q, rfl⟩ := hw7; exact HV6.out
    clear hw7 hfin c1 c2 c3 hz hcat
    go_wp2_with fail
    have hxl := HX.out
    by_cases hf : xs.findIdx (· == a2) < len0
    · obtain ⟨f, hff⟩ : ∃ f, xs.findIdx (· == a2) = f := ⟨_, rfl⟩
      have hu : RS.upto ⟨xs, 0, 0⟩ a2 = (xs.take f, ⟨xs, f + 1, 0⟩) := by simp [RS.upto, hff, hxl]; omega
      have hxf : xs.getD f 0 = a2 := by
        have h1 := List.findIdx_getElem (xs := xs) (p := (· == a2)) (w := by omega)
        simp only [hff, beq_iff_eq] at h1
        rw [List.getD_eq_getElem?_getD, List.getElem?_eq_getElem (by omega)]
        simpa using h1
      rw [hu] at HS7 HV7
      have hn6 : n6 = f := by rw [← HN6.out, hu]; simp; omega
      rw [hff] at hf
      subst hn6
      have HU := Lib.hid hu
      refine (err g2 _ _ _ HS7.out).mono ?_
      rintro e w8 ⟨rfl, rfl⟩
      obtain ⟨b, o, rfl, _, hcell⟩ : ∃ b o, a0 = some ⟨b, o, none⟩ ∧ b < w7.heap.size ∧ ∀ i, i < xs.length → w7.cell? ⟨b, o + i, none⟩ = some (.int .u8 (xs.getD i 0)) := by
        rcases HL.out.below HB7.out with h | h
        · rw [h] at hxl; simp at hxl; omega
        · exact h
      have hcf := hcell n6 (by omega)
      rw [hxf] at hcf
      have d1 := fun q => (((HL.out.below HB7.out).cut 0 n6).str_n (P := Try.prog) (w := w7.drewN q) n6 (by simp; omega) 23 9 5 cap0 Try.underlying23 Try.underlying5 Try.underlying9)
      have d2 := fun q => ((Lies.of_own HV7.out).str_n (P := Try.prog) (w := w7.drewN q) n6 (by simp; omega) 23 9 5 c6 Try.underlying23 Try.underlying5 Try.underlying9)
      simp only [List.drop_zero, Nat.add_zero] at d1
      obtain ⟨T, hT⟩ : ∃ T, T = strOfNums (xs.take n6) := ⟨_, rfl⟩
      rw [← hT] at d1 d2
      clear hT hcell hu hxf hff hxl
      go_wp2_with fail
      go_quiet ((go_at_call 19; exact Calls.quiet_of_same (at_q g2 _ _ _ HS7.out)))
      go_wp2
      go_ret
      exact ⟨rfl, below_drewN HB7.out _⟩
    · have hu : RS.upto ⟨xs, 0, 0⟩ a2 = ([], ⟨xs, 0, 3⟩) := by simp [RS.upto, hxl]; omega
      rw [hu] at HS7 HV7
      have hn6 : n6 = 0 := by rw [← HN6.out, hu]; rfl
      subst hn6
      have HU := Lib.hid hu
      have hnone : ∀ i, i < len0 → (xs.getD i 0 == a2) = false := by
        intro i hi
        have := List.not_of_lt_findIdx (xs := xs) (p := (· == a2)) (i := i) (by omega)
        simpa [List.getD_eq_getElem?_getD, List.getElem?_eq_getElem (show i < xs.length by omega)] using this
      have HNONE := Lib.hid hnone
      clear hu hnone hf
      refine (err g2 _ _ _ HS7.out).mono ?_
      rintro e w8 ⟨rfl, rfl⟩
      clear hxl
      go_wp2
      go_loop [60] (fun i => ∃ j : Nat, j ≤ len0 ∧ i = .int .i64 j) (fun i => len0 - (intOf i).toNat)
      case atStart => exact ⟨0, Nat.zero_le _, rfl⟩
      case round =>
        obtain ⟨j, hj, rfl⟩ := hrel
        by_cases hlt : j < len0
        · obtain ⟨b, o, x, rfl, hcx, hx2⟩ : ∃ b o x, a0 = some ⟨b, o, none⟩ ∧ w7.cell? ⟨b, o + j, none⟩ = some (.int .u8 x) ∧ (x == a2) = false := by
            have hxl := HX.out
            rcases HL.out.below HB7.out with h | ⟨b, o, h, _, hc⟩
            · rw [h] at hxl; simp at hxl; omega
            · exact ⟨b, o, _, h, hc j (by omega), HNONE.out j hlt⟩
          go_wp2
          go_round
          case rel => exact ⟨j + 1, by omega, by go_num⟩
          case measure => simp [intOf]; omega
        · go_wp2
          go_ret
          exact ⟨rfl, HB7.out⟩
  · have hd : decide ((300 : Int) < (len0 : Int)) = true := by simp; omega
    clear w0
    go_enter Try.func5, Try.ntmps5
    go_wp2_with fail
    refine (Aw.awake _).mono ?_
    rintro e w1 ⟨rfl, hb⟩
    have HB := Lib.hid hb
    clear hb
    go_wp2
    go_ret
    exact ⟨rfl, HB.out⟩

set_option maxRecDepth 100000 in
theorem lifted (os : Os) (started : os.Started) (H : Type) (enc : TypeId × Value → H) :
    ReturnsInHanded {} Try.checked os 5 .any (Rows.wireSplitsSpec.pre6 enc Try.prog Try.f5 Rows.wireSplitsRow.domain false) (Rows.wireSplitsSpec.post enc Try.prog Try.f5 false true false false) := by
  refine returnsInHanded_of_change (C := Try.checked) own started (by kernel_rfl) Try.func5
    (ChangeSpec.witness6 (enc := enc) (C := Try.checked) false ⟨#[], #[.slice none 0 0, .int .u16 0, .int .u8 0], []⟩ 8 (by kernel_rfl) (by kernel_rfl) (by kernel_rfl) (by kernel_rfl)) ?_
  intro W base args ds gs before hval0 hW hcnd _
  have hval : ∀ (j : Nat) t v, Try.f5.params[j]? = some t → args[j]? = some v → Value.okWide Try.prog W .any base t v := hval0
  have hW' := hW
  obtain ⟨p, q, hA0, hV, rfl, hfz, hnd⟩ := hW
  have hA : DataW.TrodAll enc Try.prog W 0 (fun _ => true) true Try.f5.params.toList args.toList ds p := hA0
  rw [Try.params5] at hA hval
  obtain ⟨v0, vs0, d0, ds0, p0, q0, hargs, rfl, rfl, h0, r0⟩ := trodAll_cons hA
  obtain ⟨v1, vs1, d1, ds1, p1, q1, rfl, rfl, rfl, h1, r1⟩ := trodAll_cons r0
  obtain ⟨v2, vs2, d2, ds2, p2, q2, rfl, rfl, rfl, h2, r2⟩ := trodAll_cons r1
  obtain ⟨rfl, rfl, rfl⟩ := trodAll_nil r2
  obtain rfl : args = #[v0, v1, v2] := by cases args; simp_all
  obtain ⟨rfl, rfl⟩ := trodVars_none hV
  obtain ⟨a0, len0, cap0, rfl⟩ := okWide_slice Try.underlying23 (hval 0 23 v0 rfl rfl)
  have k0 := h0
  have lt0 : ∀ x ∈ p0, x.block < W.heap.size := by obtain ⟨m, hm⟩ := k0; exact DataW.trod_lt m _ _ _ hm
  obtain ⟨z0, w0⟩ : ∃ zs, IsRow .u8 W a0 len0 cap0 zs := by
    obtain ⟨fuel, hf⟩ := h0
    rcases open_ints Try.underlying23 Try.underlying5 (by kernel_rfl) hf with ⟨hcs, _⟩ | ⟨x, l, c, zs, hcs, _, hl, hm, hz, _, hcell, hwz⟩
    · simp [Value.cells] at hcs
      obtain ⟨rfl, rfl, rfl⟩ := hcs
      exact ⟨[], .inl ⟨rfl, rfl, rfl, rfl⟩⟩
    · simp [Value.cells] at hcs
      obtain ⟨rfl, rfl, rfl⟩ := hcs
      exact ⟨zs, .inr ⟨_, rfl, hl, hm, by simpa using hz, hcell, hwz⟩⟩
  obtain ⟨a1, rfl, rfl, rfl, w1⟩ := open_int Try.underlying45 (hval 1 45 v1 rfl rfl) h1
  obtain ⟨a2, rfl, rfl, rfl, w2⟩ := open_int Try.underlying5 (hval 2 5 v2 rfl rfl) h2
  clear hA0 hval0
  refine (walk a0 len0 cap0 z0 a1 a2 W w0 w1 w2).mono fun e W' ⟨he, bel⟩ => ?_
  subst he
  exact ⟨_, rfl, _, _, _, [], _, [], hW', trodAll_mk1 (shut_bool Try.underlying4 _), (trodAll_cons_mk (Below.trod laidOut (by kernel_rfl) (of_decide_eq_true (by kernel_rfl)) k0 bel lt0) (trodAll_cons_mk (shut_int Try.underlying45 w1) (trodAll_cons_mk (shut_int Try.underlying5 w2) trodAll_mk0))), rfl, bel.frame _, fun h => by cases h⟩

theorem over : Rows.wireSplitsRow.holds Try.pinned (OpenSpec.ofChange Rows.wireSplitsSpec) :=
  OpenClaim.holds_of_wide 5 Try.f5 rfl rfl rfl rfl rfl rfl rfl ⟨rfl, rfl, rfl, rfl, rfl⟩ rfl rfl rfl rfl rfl (by kernel_rfl) Try.func5 (by kernel_rfl)
    (of_decide_eq_true (by kernel_rfl)) (by unfold Func.isWrapper; first | (rw [if_pos (by decide +kernel)]; kernel_rfl) | (rw [if_neg (by decide +kernel)]; exact ⟨rfl, rfl⟩))
    (fun os started H enc _ => lifted os started H enc)

/-- The statement, as given. -/
theorem proved : Rows.WireSplitsSaid := over
end Go.Proofs.Ytlidnejookcbjaa.wireSplits
namespace Go.Proofs.Ytlidnejookcbjaa
/-- The statement, as given. -/
theorem wireSplits_holds : Rows.WireSplitsSaid := wireSplits.proved
#print axioms wireSplits_holds
end Go.Proofs.Ytlidnejookcbjaa
