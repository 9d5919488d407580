/- The statement ItfCounts (P2.2: numbers that are too great; a nil writer) holds for every input: the Go function answers true, and its arguments read as before. No conditions beyond the row's own. -/
import Derived.Test.YtnbgcepejhggnaaRows
import Derived.WalkKit
import Derived.Below
import Derived.Test.YtnbgcepejhggnaaItfBack
import Derived.Test.YtnbgcepejhggnaaAwake2
import Derived.Outline
import Derived.ProofKit
import Derived.OpenShut
import Derived.ShutString
namespace Go.Proofs.Ytnbgcepejhggnaa.itfCounts
open Go.ChangeShapes Go.WideShapes Go.ChangeAt Go.RowKit
open Go.ChangeMaps (open_string shut_string)
open Go.Proofs.Ytnbgcepejhggnaa.Gen Go.Proofs.Ytnbgcepejhggnaa.Wr Go.Proofs.Ytnbgcepejhggnaa.Ww Go.Proofs.Ytnbgcepejhggnaa.It
set_option linter.unusedVariables false

theorem own : ownKnob Try.prog.godebug = none := by kernel_rfl


theorem walk (a0 : Int) (a1 : Int) (w0 : (Lit.int .u32 a0).wf = true) (w1 : (Lit.int .i64 a1).wf = true) (w : World) :
    Calls Try.prog 6 #[.int .u32 a0, .int .i64 a1] w fun e w' => e = .returned (.bool true) ∧ Below w.heap.size w w' := by
  have hb0 := bounds_u32 w0
  have hv1 := w1
  clear w0 w1
  go_enter Try.func6, Try.ntmps6
  go_wp2_with fail
  refine (Aw.awake _).mono ?_
  rintro e w1 ⟨rfl, hb1⟩
  have HB1 := Lib.hid hb1
  clear hb1
  go_wp2_with fail
  refine (Iw.int _ _ _ [] a0 _ (new_of 30 (by decide) w1) (by simp) hb0.1 (by omega)).mono ?_
  rintro e w2 hp
  obtain rfl := hp.1
  rw [List.nil_append] at hp
  obtain ⟨v2, hw2, hk2⟩ := Has.next (new_of 30 (by decide) w1) ((Keeps.refl _ _).alloc _) hp
  obtain ⟨N, hN⟩ : ∃ N, (encInt a0).length = N := ⟨_, rfl⟩
  have HW := Lib.hid hw2
  have HK := Lib.hid hk2
  have HN := Lib.hid hN
  clear hp hw2 hk2 hN
  go_wp2_with fail
  refine (bytes_n _ _ v2 (encInt a0) N _ HN.out HW.out).mono ?_
  rintro e w3 ⟨A, c, rfl, hv, hk⟩
  have hbel : Below w.heap.size w w3 := HB1.out.trans ((HK.out.trans (hk.mono fun _ _ h => h.elim)).below HB1.out.size (fun _ h => Nat.le_trans HB1.out.size h))
  have HB3 := Lib.hid hbel
  have HB3s := Lib.hid hbel.size
  have HV := Lib.hid hv
  clear hv hk hbel HB1 HW HK
  have hNl := Ib.encInt_len a0
  rw [HN.out] at hNl
  go_wp2_with fail
  refine (Ir.iread A N c (encInt a0) _ HN.out (Lies.of_own HV.out) (by omega) (Ib.encInt_byte hb0.1 (by omega))).mono ?_
  rintro e w4 ⟨g, rfl, hr, hk⟩
  have hbel : Below w.heap.size w w4 := HB3.out.trans (hk.below HB3.out.size (fun _ h => h.elim))
  have HB4 := Lib.hid hbel
  have HR := Lib.hid hr
  have hg3 : w3.heap.size ≤ g := hr.1
  clear hr hk hbel HB3 HV
  unfold Ir.rd
  go_wp2_with fail
  generalize hW : w4.alloc (.cells #[.pointer (some ⟨g, 0, none⟩)] 39) = W
  have HX : Hid (Ir.Box w4 g W) := by subst hW; exact Ir.Box.new w4 g HR.out.lt
  have HR5 := Lib.hid (HX.out.rd HR.out hW.symm)
  clear hW
  have hi : Ir.RS.int ⟨encInt a0, 0, 0⟩ = (a0, ⟨encInt a0, N, 0⟩) := by
    have := Ib.int_back (all := encInt a0) (k := 0) (rest := []) (by simp) hb0.1 (by omega)
    rwa [Nat.zero_add, HN.out] at this
  have hgw : w.heap.size ≤ g := by have := HR.out.1; have := HB3s.out; omega
  by_cases hm : a1 < a0
  · have hc : Ir.RS.count ⟨encInt a0, 0, 0⟩ a1 = (0, ⟨encInt a0, N, 7⟩) := by simp [Ir.RS.count, hi, hm, RS.fail]
    have HC := Lib.hid hc
    clear hc hi
    refine (Ir.count g _ _ a1 _ HR5.out).mono ?_
    rintro e w5 ⟨rfl, hr, hk⟩
    rw [HC.out] at hr ⊢
    have HX5 := Lib.hid (HX.out.next hk)
    have HR6 := Lib.hid hr
    have hx := HX5.out.cell
    clear hr hk HX HR5
    go_wp2_with fail
    refine (Iw.int_none a0 _ hb0.1 (by omega)).mono ?_
    rintro e w6 ⟨rfl, rfl⟩
    go_wp2_with fail
    refine (Iw.signed_none a1 _).mono ?_
    rintro e w7 ⟨rfl, rfl⟩
    go_wp2_with fail
    refine (Iw.long_none a0 _ hb0.1 (by omega)).mono ?_
    rintro e w8 ⟨rfl, rfl⟩
    go_wp2_with fail
    refine (Wr.err g _ _ _ HR6.out).mono ?_
    rintro e w9 ⟨rfl, rfl⟩
    go_wp2
    go_ret
    exact ⟨rfl, HB4.out.trans (HX5.out.2.1.below HB4.out.size (fun k h => by omega))⟩
  · have hc : Ir.RS.count ⟨encInt a0, 0, 0⟩ a1 = (a0, ⟨encInt a0, N, 0⟩) := by simp [Ir.RS.count, hi, hm]
    have HC := Lib.hid hc
    have HF : Hid (RS.fin ⟨encInt a0, N, 0⟩ = 0) := by
      show RS.fin ⟨encInt a0, N, 0⟩ = 0
      simp [RS.fin, HN.out]
    clear hc hi
    refine (Ir.count g _ _ a1 _ HR5.out).mono ?_
    rintro e w5 ⟨rfl, hr, hk⟩
    rw [HC.out] at hr ⊢
    have HX5 := Lib.hid (HX.out.next hk)
    have HR6 := Lib.hid hr
    have hx := HX5.out.cell
    clear hr hk HX HR5
    go_wp2_with fail
    refine (Iw.int_none a0 _ hb0.1 (by omega)).mono ?_
    rintro e w6 ⟨rfl, rfl⟩
    go_wp2_with fail
    refine (Iw.signed_none a1 _).mono ?_
    rintro e w7 ⟨rfl, rfl⟩
    go_wp2_with fail
    refine (Iw.long_none a0 _ hb0.1 (by omega)).mono ?_
    rintro e w8 ⟨rfl, rfl⟩
    go_wp2_with fail
    refine (Wr.end_ g _ _ _ HR6.out).mono ?_
    rintro e w9 ⟨rfl, n, rfl⟩
    rw [HF.out]
    go_wp2
    go_ret
    exact ⟨rfl, below_drewN (HB4.out.trans (HX5.out.2.1.below HB4.out.size (fun k h => by omega))) n⟩
  -- go_enter Try.func6, Try.ntmps6
  -- go_wp2
  -- go_ret
  -- exact ⟨rfl, by repeat (first | exact Grown.refl _ | apply Grown.drew | apply Grown.alloc)⟩

set_option maxRecDepth 100000 in
theorem lifted (os : Os) (started : os.Started) (H : Type) (enc : TypeId × Value → H) :
    ReturnsInHanded {} Try.checked os 6 .any (Rows.itfCountsSpec.pre6 enc Try.prog Try.f6 Rows.itfCountsRow.domain false) (Rows.itfCountsSpec.post enc Try.prog Try.f6 false true false false) := by
  refine returnsInHanded_of_change (C := Try.checked) own started (by kernel_rfl) Try.func6
    (ChangeSpec.witness6 (enc := enc) (C := Try.checked) false ⟨#[], #[.int .u32 0, .int .i64 0], []⟩ 8 (by kernel_rfl) (by kernel_rfl) (by kernel_rfl) (by kernel_rfl)) ?_
  intro W base args ds gs before hval0 hW hcnd _
  have hval : ∀ (j : Nat) t v, Try.f6.params[j]? = some t → args[j]? = some v → Value.okWide Try.prog W .any base t v := hval0
  have hW' := hW
  obtain ⟨p, q, hA0, hV, rfl, hfz, hnd⟩ := hW
  have hA : DataW.TrodAll enc Try.prog W 0 (fun _ => true) true Try.f6.params.toList args.toList ds p := hA0
  rw [Try.params6] at hA hval
  obtain ⟨v0, vs0, d0, ds0, p0, q0, hargs, rfl, rfl, h0, r0⟩ := trodAll_cons hA
  obtain ⟨v1, vs1, d1, ds1, p1, q1, rfl, rfl, rfl, h1, r1⟩ := trodAll_cons r0
  obtain ⟨rfl, rfl, rfl⟩ := trodAll_nil r1
  obtain rfl : args = #[v0, v1] := by cases args; simp_all
  obtain ⟨rfl, rfl⟩ := trodVars_none hV
  obtain ⟨a0, rfl, rfl, rfl, w0⟩ := open_int Try.underlying31 (hval 0 31 v0 rfl rfl) h0
  obtain ⟨a1, rfl, rfl, rfl, w1⟩ := open_int Try.underlying3 (hval 1 3 v1 rfl rfl) h1
  clear hA0 hval0
  refine (walk a0 a1 w0 w1 W).mono fun e W' ⟨he, bel⟩ => ?_
  subst he
  exact ⟨_, rfl, _, _, _, [], _, [], hW', trodAll_mk1 (shut_bool Try.underlying4 _), (trodAll_cons_mk (shut_int Try.underlying31 w0) (trodAll_cons_mk (shut_int Try.underlying3 w1) trodAll_mk0)), rfl, bel.frame _, fun h => by cases h⟩

theorem over : Rows.itfCountsRow.holds Try.pinned (OpenSpec.ofChange Rows.itfCountsSpec) :=
  OpenClaim.holds_of_wide 6 Try.f6 rfl rfl rfl rfl rfl rfl rfl ⟨rfl, rfl, rfl, rfl, rfl⟩ rfl rfl rfl rfl rfl (by kernel_rfl) Try.func6 (by kernel_rfl)
    (of_decide_eq_true (by kernel_rfl)) (by unfold Func.isWrapper; first | (rw [if_pos (by decide +kernel)]; kernel_rfl) | (rw [if_neg (by decide +kernel)]; exact ⟨rfl, rfl⟩))
    (fun os started H enc _ => lifted os started H enc)

/-- The statement, as given. -/
theorem proved : Rows.ItfCountsSaid :=
  over
end Go.Proofs.Ytnbgcepejhggnaa.itfCounts
namespace Go.Proofs.Ytnbgcepejhggnaa
/-- The statement, as given. -/
theorem itfCounts_holds : Rows.ItfCountsSaid := itfCounts.proved
#print axioms itfCounts_holds
end Go.Proofs.Ytnbgcepejhggnaa
