/- The statement RansShort (P7.2: bytes that are all alike are told in few, however many there are) holds for every input: the Go function answers true, and its arguments read as before. No conditions beyond the row's own. -/
import Derived.Test.YtafdilcedggpiaaRows
import Derived.WalkKit
import Derived.Below
import Derived.Test.YtafdilcedggpiaaAwake7
import Derived.Test.YtafdilcedggpiaaRnSh
import Derived.Outline
import Derived.RegionTactic
import Derived.BigQuiet
import Derived.ProofKit
import Derived.OpenShut
import Derived.ShutString
namespace Go.Proofs.Ytafdilcedggpiaa.ransShort
open Go.ChangeShapes Go.WideShapes Go.ChangeAt Go.RowKit
open Go.ChangeMaps (open_string shut_string)
open Go.Proofs.Ytafdilcedggpiaa.Gen Go.Proofs.Ytafdilcedggpiaa.Wr Go.Proofs.Ytafdilcedggpiaa.Rp Go.Proofs.Ytafdilcedggpiaa.Rs Go.Proofs.Ytafdilcedggpiaa.Aw7
set_option linter.unusedVariables false

theorem own : ownKnob Try.prog.godebug = none := by kernel_rfl

theorem made (t : Nat) : madeCells (Value.int .u8 0).cells (t * 1) = (bv (List.replicate t 0)).toArray := by
  apply Array.ext_getElem?
  intro j
  by_cases hj : j < t
  · simp [madeCells, hj, Nat.mod_one, bv, Value.cells]
  · simp [madeCells, hj, bv]
theorem make_bytes (t : Nat) (ht : t ≤ 1000000) (w : World) : (Instr.makeSlice 22 (.int .i64 (t : Int)) (.int .i64 (t : Int))).run Try.prog w = .ok (.slice (some ⟨w.heap.size, 0, none⟩) t t) (w.alloc (.cells (bv (List.replicate t 0)).toArray 5)) := by
  obtain ⟨i0, hi0, hz0, hz1, hz2⟩ := info_parts u8_info
  have h := run_make (P := Try.prog) w 22 5 i0 _ Try.underlying22 hi0 hz0 .i64 .i64 (t : Int) (t : Int) (by omega) (by omega) (by rw [hz2]; omega) (by omega)
  rw [hz1, Int.toNat_natCast, made] at h
  exact h
/-- The first d are c. -/
def filled (n d : Nat) (c : Int) : List Int := List.replicate d c ++ List.replicate (n - d) 0
theorem filled_len {n d : Nat} {c : Int} (h : d ≤ n) : (filled n d c).length = n := by simp [filled]; omega
theorem filled_set {n d : Nat} {c : Int} (h : d < n) : (filled n d c).set d c = filled n (d + 1) c := by
  rw [filled, filled, List.set_append_right _ _ (by simp), List.length_replicate, Nat.sub_self, show n - d = (n - (d + 1)) + 1 by omega, List.replicate_succ, List.set_cons_zero, List.replicate_succ', List.append_assoc]
  rfl
theorem bv_set (l : List Int) (j : Nat) (x : Int) : (bv l).toArray.setIfInBounds j (.int .u8 x) = (bv (l.set j x)).toArray := by simp [bv, List.map_set]
theorem blk_lies {w : World} {g : Nat} {xs : List Int} (h : Blk w g 5 (bv xs).toArray) : Lies w (some ⟨g, 0, none⟩) xs := by
  refine .inr ⟨g, 0, rfl, h.lt, fun i hi => ?_⟩
  rw [h.cell, Nat.zero_add]
  simpa using bv_at hi
set_option maxHeartbeats 4000000 in
set_option maxRecDepth 100000 in
theorem walk (a0 : Int) (a1 : Int) (w0 : (Lit.int .u16 a0).wf = true) (w1 : (Lit.int .u8 a1).wf = true) (w : World) :
    Calls Try.prog 6 #[.int .u16 a0, .int .u8 a1] w fun e w' => e = .returned (.bool true) ∧ Below w.heap.size w w' := by
  have hb0 := bounds_u16 w0
  have hb1 := bounds_u8 w1
  clear w0 w1
  obtain ⟨n, rfl⟩ : ∃ n : Nat, a0 = (n : Int) := ⟨a0.toNat, by omega⟩
  obtain ⟨c, rfl⟩ : ∃ c : Nat, a1 = (c : Int) := ⟨a1.toNat, by omega⟩
  have hn : n ≤ 65535 := by omega
  have hc : c < 256 := by omega
  have hwn : IntKind.i64.wrap (n : Int) = (n : Int) := IntWalk.i64_in _ (by omega)
  have hmk := make_bytes n (by omega)
  have HN := Lib.hid hn
  have HC := Lib.hid hc
  clear hb0 hb1 hn hc
  go_enter Try.func6, Try.ntmps6
  go_wp2_with fail
  refine (awake_ _).mono ?_
  rintro e w1 ⟨rfl, hk1⟩
  have HK1 := Lib.hid hk1
  clear hk1
  go_upto_region 4 with fail
  obtain ⟨g, hg⟩ : ∃ g, w1.heap.size = g := ⟨_, rfl⟩
  have HB2 : Hid (Blk (w1.alloc (.cells (bv (List.replicate n 0)).toArray 5)) w1.heap.size 5 (bv (List.replicate n 0)).toArray) := Blk.new _ _ _
  have HK2 : Hid (Keeps (fun _ => False) w (w1.alloc (.cells (bv (List.replicate n 0)).toArray 5))) := HK1.out.alloc _
  generalize w1.alloc (.cells (bv (List.replicate n 0)).toArray 5) = w2 at HB2 HK2 ⊢
  have HGW : Hid (w.heap.size ≤ g) := by show _ ≤ g; rw [← hg]; exact HK1.out.size
  rw [hg] at HB2 ⊢
  clear hg HK1 hmk
  go_wp2_with fail
  go_loopw [6, 17] (fun _ i wr => ∃ d : Nat, i = .int .i64 (d : Int) ∧ d ≤ n ∧ Hid (Blk wr g 5 (bv (filled n d (c : Int))).toArray ∧ Keeps (fun _ => False) w wr)) (fun _ i _ => n - (intOf i).toNat)
  case atStart => exact ⟨0, rfl, by omega, Lib.hid ⟨by rw [filled, List.replicate_zero, List.nil_append, Nat.sub_zero]; exact HB2.out, HK2.out⟩⟩
  case round =>
    clear HB2 HK2
    obtain ⟨d, rfl, hd, HH⟩ := hrel
    by_cases hlt : d < n
    · have hd0 : (0 : Int) ≤ (d : Int) := by omega
      have hd1 : (d : Int) < (n : Int) := by omega
      have hcell : wr.cell? ⟨g, d, none⟩ = some (.int .u8 ((filled n d (c : Int)).getD d 0)) := by rw [HH.out.1.cell, List.getElem?_toArray, bv_at (by rw [filled_len (by omega)]; exact hlt)]
      have hfz := HH.out.1.frozen d
      have HNX : Hid (Blk (wr.setCell ⟨g, d, none⟩ (.int .u8 (c : Int))) g 5 (bv (filled n (d + 1) (c : Int))).toArray ∧ Keeps (fun _ => False) w (wr.setCell ⟨g, d, none⟩ (.int .u8 (c : Int)))) := by
        refine Lib.hid ⟨?_, HH.out.2.setCell (p := ⟨g, d, none⟩) (.inr HGW.out) _⟩
        have := HH.out.1.setCell d (.int .u8 (c : Int))
        rw [bv_set, filled_set hlt] at this
        exact this
      have hw1 : IntKind.i64.wrap ((d : Int) + 1) = (d : Int) + 1 := IntWalk.i64_in _ (by have := HN.out; omega)
      generalize (filled n d (c : Int)).getD d 0 = zz at hcell
      go_wp2_with fail
      exact ⟨⟨d + 1, by go_num, by omega, HNX⟩, by simp [intOf]; omega⟩
    · obtain rfl : d = n := by omega
      have hge : ¬ ((d : Int) < (d : Int)) := by omega
      obtain ⟨b, hb⟩ : ∃ b : List Int, List.replicate d (c : Int) = b := ⟨_, rfl⟩
      have hbl : b.length = d := by rw [← hb]; simp
      have hby : ∀ x ∈ b, 0 ≤ x ∧ x < 256 := by
        intro x hx
        rw [← hb] at hx
        have := List.eq_of_mem_replicate hx
        have := HC.out
        omega
      have HLB : Hid (Lies wr (some ⟨g, 0, none⟩) b) := by
        have := blk_lies HH.out.1
        rw [filled, Nat.sub_self, List.replicate_zero, List.append_nil, hb] at this
        exact this
      have HKR := Lib.hid HH.out.2
      obtain ⟨m, hm⟩ : ∃ m, (pk b).length = m := ⟨_, rfl⟩
      have hm30 : m ≤ 30 := by rw [← hm, ← hb]; exact pk_rep d c HC.out HN.out
      have hNb := HN.out
      have HPU := Lib.hid (put_ (some ⟨g, 0, none⟩) d d m b wr HLB.out hbl (by omega) hby hm)
      have HTA := Lib.hid (fun A cc W (h : Lies W A (pk b)) => take_ A m cc (pk b) (d : Int) (d : Int) W hm h (by omega) (pk_byte hby (by omega)) (by omega) (by omega))
      rw [tk_back hby (by omega) (by omega)] at HTA
      have HBL := Lib.hid hbl
      have hle : ((m : Nat) : Int) ≤ 30 := by omega
      have hdec : decide ((m : Int) ≤ 30) = true := by rw [decide_eq_true_iff]; exact hle
      obtain ⟨sx, hsx⟩ : ∃ sx, strOfNums b = sx := ⟨_, rfl⟩
      have HSX := Lib.hid hsx
      clear hb hbl hby hm hm30 hNb HH hlt hd hle hsx
      go_wp2_with (first
        | (have H1 := HPU
           go_at_call 8
           refine H1.out.mono ?_
           rintro e w3 ⟨A3, c3, rfl, ho3, hk3⟩
           have HL3 := Lib.hid (Lies.of_own ho3)
           have HLB3 := Lib.hid (HLB.out.keeps hk3 (fun _ _ _ => id))
           have HK3 := Lib.hid (HKR.out.trans hk3)
           clear ho3 hk3 HPU H1)
        | (have H1 := HL3
           go_at_call 9
           refine (HTA.out _ _ _ H1.out).mono ?_
           rintro e w4 ⟨A4, k4, c4, rfl, hl4, hli4, hk4⟩
           obtain rfl : k4 = d := by rw [← hl4]; exact HBL.out
           have hcv0 := hli4.str_n (P := Try.prog) k4 HBL.out 22 9 5 c4 Try.underlying22 Try.underlying5 Try.underlying9
           have hcv1 := (HLB3.out.keeps hk4 (fun _ _ _ => id)).str_n (P := Try.prog) k4 HBL.out 22 9 5 k4 Try.underlying22 Try.underlying5 Try.underlying9
           simp only [HSX.out] at hcv0 hcv1
           have HK4 := Lib.hid (HK3.out.trans hk4)
           clear hl4 hli4 hk4 HL3 H1))
      go_ret
      exact ⟨rfl, HK4.out.below (Nat.le_refl _) (fun _ h => h.elim)⟩
  -- go_enter Try.func6, Try.ntmps6
  -- go_wp2
  -- go_ret
  -- exact ⟨rfl, by repeat (first | exact Grown.refl _ | apply Grown.drew | apply Grown.alloc)⟩

set_option maxRecDepth 100000 in
theorem lifted (os : Os) (started : os.Started) (H : Type) (enc : TypeId × Value → H) :
    ReturnsInHanded {} Try.checked os 6 .any (Rows.ransShortSpec.pre6 enc Try.prog Try.f6 Rows.ransShortRow.domain false) (Rows.ransShortSpec.post enc Try.prog Try.f6 false true false false) := by
  refine returnsInHanded_of_change (C := Try.checked) own started (by kernel_rfl) Try.func6
    (ChangeSpec.witness6 (enc := enc) (C := Try.checked) false ⟨#[], #[.int .u16 0, .int .u8 0], []⟩ 8 (by kernel_rfl) (by kernel_rfl) (by kernel_rfl) (by kernel_rfl)) ?_
  intro W base args ds gs before hval0 hW hcnd _
  have hval : ∀ (j : Nat) t v, Try.f6.params[j]? = some t → args[j]? = some v → Value.okWide Try.prog W .any base t v := hval0
  have hW' := hW
  obtain ⟨p, q, hA0, hV, rfl, hfz, hnd⟩ := hW
  have hA : DataW.TrodAll enc Try.prog W 0 (fun _ => true) true Try.f6.params.toList args.toList ds p := hA0
  rw [Try.params6] at hA hval
  obtain ⟨v0, vs0, d0, ds0, p0, q0, hargs, rfl, rfl, h0, r0⟩ := trodAll_cons hA
  obtain ⟨v1, vs1, d1, ds1, p1, q1, rfl, rfl, rfl, h1, r1⟩ := trodAll_cons r0
  obtain ⟨rfl, rfl, rfl⟩ := trodAll_nil r1
  obtain rfl : args = #[v0, v1] := by cases args; simp_all
  obtain ⟨rfl, rfl⟩ := trodVars_none hV
  obtain ⟨a0, rfl, rfl, rfl, w0⟩ := open_int Try.underlying23 (hval 0 23 v0 rfl rfl) h0
  obtain ⟨a1, rfl, rfl, rfl, w1⟩ := open_int Try.underlying5 (hval 1 5 v1 rfl rfl) h1
  clear hA0 hval0
  refine (walk a0 a1 w0 w1 W).mono fun e W' ⟨he, bel⟩ => ?_
  subst he
  exact ⟨_, rfl, _, _, _, [], _, [], hW', trodAll_mk1 (shut_bool Try.underlying4 _), (trodAll_cons_mk (shut_int Try.underlying23 w0) (trodAll_cons_mk (shut_int Try.underlying5 w1) trodAll_mk0)), rfl, bel.frame _, fun h => by cases h⟩

theorem over : Rows.ransShortRow.holds Try.pinned (OpenSpec.ofChange Rows.ransShortSpec) :=
  OpenClaim.holds_of_wide 6 Try.f6 rfl rfl rfl rfl rfl rfl rfl ⟨rfl, rfl, rfl, rfl, rfl⟩ rfl rfl rfl rfl rfl (by kernel_rfl) Try.func6 (by kernel_rfl)
    (of_decide_eq_true (by kernel_rfl)) (by unfold Func.isWrapper; first | (rw [if_pos (by decide +kernel)]; kernel_rfl) | (rw [if_neg (by decide +kernel)]; exact ⟨rfl, rfl⟩))
    (fun os started H enc _ => lifted os started H enc)

/-- The statement, as given. -/
theorem proved : Rows.RansShortSaid :=
  over
end Go.Proofs.Ytafdilcedggpiaa.ransShort
namespace Go.Proofs.Ytafdilcedggpiaa
/-- The statement, as given. -/
theorem ransShort_holds : Rows.RansShortSaid := ransShort.proved
#print axioms ransShort_holds
end Go.Proofs.Ytafdilcedggpiaa
