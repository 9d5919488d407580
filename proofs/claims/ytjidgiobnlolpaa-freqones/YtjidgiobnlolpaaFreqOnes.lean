/- The statement FreqOnes (P6.1, without the document's answer: bytes that all come as often have parts that differ by no more than what is left over) holds for every input: the Go function answers true, and its arguments read as before. No conditions beyond the row's own. -/
import Derived.Test.YtjidgiobnlolpaaRows
import Derived.WalkKit
import Derived.Below
import Derived.Test.YtjidgiobnlolpaaAwake6
import Derived.Outline
import Derived.RegionTactic
import Derived.ProofKit
import Derived.OpenShut
import Derived.ShutString
namespace Go.Proofs.Ytjidgiobnlolpaa.freqOnes
open Go.ChangeShapes Go.WideShapes Go.ChangeAt Go.RowKit
open Go.ChangeMaps (open_string shut_string)
open Go.Proofs.Ytjidgiobnlolpaa.Gen Go.Proofs.Ytjidgiobnlolpaa.Fq Go.Proofs.Ytjidgiobnlolpaa.Aw
set_option linter.unusedVariables false

theorem own : ownKnob Try.prog.godebug = none := by kernel_rfl

/-- The first i come k times. -/
def ones (k : Int) (i : Nat) : List Int := List.replicate i k ++ List.replicate (256 - i) 0
theorem ones_len {k : Int} {i : Nat} (h : i ≤ 256) : (ones k i).length = 256 := by simp [ones]; omega
theorem ones_zero (k : Int) : ones k 0 = zs := by rw [ones, List.replicate_zero, List.nil_append, Nat.sub_zero]; rfl
theorem ones_set {k : Int} {i : Nat} (h : i < 256) : (ones k i).set i k = ones k (i + 1) := by
  rw [ones, ones, List.set_append_right _ _ (by simp), List.length_replicate, Nat.sub_self, show 256 - i = (256 - (i + 1)) + 1 by omega, List.replicate_succ, List.set_cons_zero, List.replicate_succ', List.append_assoc]
  rfl
theorem ones_get {k : Int} {n i : Nat} (h : i < 256) : (ones k n).getD i 0 = if i < n then k else 0 := by
  rw [ones, List.getD]
  by_cases hi : i < n
  · rw [List.getElem?_append_left (by simp; exact hi), List.getElem?_replicate, if_pos hi, if_pos hi]; rfl
  · rw [List.getElem?_append_right (by simp; omega), List.getElem?_replicate, if_neg hi, List.length_replicate]
    split <;> rfl
theorem ones_sum (k : Int) (n : Nat) : (ones k n).sum = n * k := by
  have hr : ∀ (m : Nat) (x : Int), (List.replicate m x).sum = m * x := by
    intro m x
    induction m with
    | zero => simp
    | succ m ih => rw [List.replicate_succ, List.sum_cons, ih]; push_cast; rw [Int.add_mul]; omega
  rw [ones, List.sum_append, hr, hr]
  simp
theorem gre_first {l : List Int} : ∀ {d : Nat}, (∀ j, j < d → l.getD j 0 ≤ l.getD 0 0) → gre l d = 0
  | 0, _ => rfl
  | d + 1, h => by
    have h1 := gre_first (l := l) (d := d) fun j hj => h j (by omega)
    have h2 := h d (by omega)
    rw [gre, h1, if_neg (by omega)]
theorem ones_pts {k : Int} {n : Nat} (hk : 0 < k) (hn : 1 ≤ n) (hn2 : n ≤ 256) : pts (ones k n) = ones (4096 / (n : Int)) n := by
  have hq : k * 4096 / ((n : Int) * k) = 4096 / (n : Int) := by rw [Int.mul_comm k 4096, Int.mul_ediv_mul_of_pos_left _ _ hk]
  have h16 : (1 : Int) ≤ 4096 / (n : Int) := by
    apply Int.le_ediv_of_mul_le (by omega)
    omega
  rw [pts, ones_sum, ones, List.map_append, List.map_replicate, List.map_replicate, part1, if_pos hk, hq, part1, if_neg (by omega), ones]
  congr 2
  omega
theorem ones_in {k : Int} (hk : 0 < k) (hk2 : k ≤ 256) (n : Nat) : InR (ones k n) := by
  intro x hx
  rcases List.mem_append.1 hx with hx | hx
  · have := List.eq_of_mem_replicate hx; omega
  · have := List.eq_of_mem_replicate hx; omega
theorem mulq {n : Nat} (hn : 1 ≤ n) : (n : Int) * (4096 / (n : Int)) ≤ 4096 := Int.mul_ediv_self_le (by omega)
theorem ones_scal {k : Int} {n : Nat} (hk : 0 < k) (hn : 1 ≤ n) (hn2 : n ≤ 256) {i : Nat} (hi : i < 256) :
    (scal (ones k n)).getD i 0 = if i = 0 then 4096 / (n : Int) + (4096 - n * (4096 / (n : Int))) else if i < n then 4096 / (n : Int) else 0 := by
  have hm := mulq hn
  have hg : gre (ones k n) 256 = 0 := gre_first fun j hj => by
    rw [ones_get hj, ones_get (by omega), if_pos (show 0 < n by omega)]
    split <;> omega
  rw [scal, ones_pts hk hn hn2, ones_sum, hg]
  by_cases hl : 0 < 4096 - (n : Int) * (4096 / (n : Int))
  · rw [if_pos hl]
    by_cases h0 : i = 0
    · subst h0
      rw [if_pos rfl, List.getD, List.getElem?_set_self (by rw [ones_len hn2]; omega), Option.getD_some, ones_get (by omega), if_pos (by omega)]
    · rw [if_neg h0, List.getD, List.getElem?_set_ne (by omega), ← List.getD, ones_get hi]
  · rw [if_neg hl, show ((n : Int) * (4096 / (n : Int)) - 4096).toNat = 0 by omega, lose, ones_get hi]
    by_cases h0 : i = 0
    · subst h0
      rw [if_pos (by omega), if_pos rfl]; omega
    · rw [if_neg h0]
set_option maxRecDepth 20000 in
theorem walk (a0 : Int) (a1 : Int) (w0 : (Lit.int .u8 a0).wf = true) (w1 : (Lit.int .u8 a1).wf = true) (w : World) :
    Calls Try.prog 7 #[.int .u8 a0, .int .u8 a1] w fun e w' => e = .returned (.bool true) ∧ Below w.heap.size w w' := by
  have hwa : 0 ≤ a0 ∧ a0 ≤ 255 := by
    have hm : IntKind.u8.min = 0 ∧ IntKind.u8.max = 255 := by decide
    simp only [Lit.wf, hm.1, hm.2, Bool.and_eq_true, decide_eq_true_eq] at w0
    omega
  have hwb : 0 ≤ a1 ∧ a1 ≤ 255 := by
    have hm : IntKind.u8.min = 0 ∧ IntKind.u8.max = 255 := by decide
    simp only [Lit.wf, hm.1, hm.2, Bool.and_eq_true, decide_eq_true_eq] at w1
    omega
  clear w0 w1
  obtain ⟨n, hn⟩ : ∃ n : Nat, 1 + a0 = (n : Int) := ⟨(1 + a0).toNat, by omega⟩
  obtain ⟨k, hk⟩ : ∃ k, 1 + a1 = k := ⟨_, rfl⟩
  have hnb : 1 ≤ n ∧ n ≤ 256 := by omega
  have hkb : 1 ≤ k ∧ k ≤ 256 := by omega
  have hwr0 : IntKind.i64.wrap a0 = a0 := IntWalk.i64_in _ (by omega)
  have hwr1 : IntKind.i64.wrap a1 = a1 := IntWalk.i64_in _ (by omega)
  have hwr2 : IntKind.i64.wrap (1 + a0) = (n : Int) := by rw [hn]; exact IntWalk.i64_in _ (by omega)
  have hwr3 : IntKind.i64.wrap (1 + a1) = k := by rw [hk]; exact IntWalk.i64_in _ (by omega)
  have hz2 : ∀ w, (zeroValue 24).run Try.prog w = .ok (.agg (vs zs)) w := arr_zero
  have hz3 : ∀ w, (zeroValue 27).run Try.prog w = .ok (.agg (vs zs)) w := tab_zero
  generalize hZ : vs zs = Z at hz2 hz3
  have HZS := Lib.hid hZ
  obtain ⟨q, hq⟩ : ∃ q, 4096 / (n : Int) = q := ⟨_, rfl⟩
  obtain ⟨p, hp⟩ : ∃ p, (n : Int) * q = p := ⟨_, rfl⟩
  have hqb : 0 ≤ q ∧ q ≤ 4096 := by
    rw [← hq]
    exact ⟨Int.ediv_nonneg (by omega) (by omega), Int.ediv_le_self _ (by omega)⟩
  have hpb : 0 ≤ p ∧ p ≤ 4096 := by
    have := mulq (n := n) hnb.1
    rw [hq, hp] at this
    exact ⟨by rw [← hp]; exact Int.mul_nonneg (by omega) hqb.1, this⟩
  have HT : Hid (∀ i, i < 256 → (scal (ones k n)).getD i 0 = if i = 0 then q + (4096 - p) else if i < n then q else 0) := fun i hi => by rw [ones_scal (by omega) hnb.1 hnb.2 hi, hq, hp]
  have hqq : (4096 : Int).tdiv (n : Int) = q := by rw [Int.tdiv_eq_ediv_of_nonneg (by omega), hq]
  have hpp : IntKind.i64.wrap ((n : Int) * q) = p := by rw [hp]; exact IntWalk.i64_in _ (by omega)
  clear hZ hn hk hq hp
  go_enter Try.func7, Try.ntmps7
  go_upto_region 5 with (go_at_call 8; refine (awake w).mono ?_; rintro e w1 ⟨rfl, hb1⟩; have HB1 := Lib.hid hb1; clear hb1)
  obtain ⟨C, hC⟩ : ∃ C, w1.heap.size = C := ⟨_, rfl⟩
  generalize hW : w1.alloc (.cells Z 24) = W
  have HB0 : Hid (Blk W C 24 (vs (ones k 0))) := by show Blk _ _ _ _; rw [← hW, ← hC, ones_zero, HZS.out]; exact Blk.new _ _ _
  have HK0 : Hid (Keeps (fun _ => False) w1 W) := by show Keeps _ _ _; rw [← hW]; exact (Keeps.refl _ _).alloc _
  have HC := Lib.hid hC
  rw [hC]
  clear hC hW
  go_wp2_with fail
  go_loopw [19] (fun i wr => ∃ d : Nat, d ≤ n ∧ i = .int .i64 (d : Int) ∧ Hid (Blk wr C 24 (vs (ones k d)) ∧ Keeps (fun _ => False) w1 wr)) (fun i _ => n - (intOf i).toNat)
  case atStart => exact ⟨0, by omega, rfl, Lib.hid ⟨HB0.out, HK0.out⟩⟩
  case round =>
    obtain ⟨d, hd, rfl, HH⟩ := hrel
    clear HB0 HK0
    by_cases hlt : d < n
    · have hcC : wr.cell? ⟨C, d, none⟩ = some (.int .i64 0) := by rw [HH.out.1.cell, vs_get (by rw [ones_len (by omega)]; omega), ones_get (by omega), if_neg (by omega)]
      have hfC : wr.frozen? ⟨C, d, none⟩ = false := HH.out.1.frozen d
      have hd0 : (0 : Int) ≤ (d : Int) := by omega
      have hd1 : (d : Int) < 256 := by omega
      have HN : Hid (Blk (wr.setCell ⟨C, d, none⟩ (.int .i64 k)) C 24 (vs (ones k (d + 1))) ∧ Keeps (fun _ => False) w1 (wr.setCell ⟨C, d, none⟩ (.int .i64 k))) := by
        refine Lib.hid ⟨?_, HH.out.2.setCell (p := ⟨C, d, none⟩) (.inr (by show w1.heap.size ≤ C; have := HC.out; omega)) _⟩
        have := HH.out.1.setCell d (.int .i64 k)
        rwa [vs_set, ones_set (by omega)] at this
      clear HH
      go_wp2_with fail
      exact ⟨⟨d + 1, by omega, by go_num, HN⟩, by simp [intOf]; omega⟩
    · obtain rfl : d = n := by omega
      have HBC := Lib.hid HH.out.1
      have HK := Lib.hid HH.out.2
      obtain ⟨cs, hcs⟩ : ∃ cs, vs (ones k d) = cs := ⟨_, rfl⟩
      have HOK : Hid (InR (ones k d) ∧ (ones k d).sum ≠ 0) := by
        refine Lib.hid ⟨ones_in (by omega) hkb.2 d, ?_⟩
        rw [ones_sum]
        have := Int.mul_pos (a := (d : Int)) (b := k) (by omega) (by omega)
        omega
      have HCI : Hid ((Try.prog.info? 24).map (·.size) = some cs.size) := by show _ = _; rw [← hcs]; exact arr_size (ones_len hnb.2)
      obtain ⟨t, ht⟩ : ∃ t, scal (ones k d) = t := ⟨_, rfl⟩
      have HTT := HT.out
      rw [ht] at HTT
      have HTG := Lib.hid HTT
      have HTL : Hid (t.length = 256) := by show _ = _; rw [← ht]; exact (scal_ok (ones_len hnb.2) HOK.out.1).1
      obtain ⟨v, hv⟩ : ∃ v, vs t = v := ⟨_, rfl⟩
      have HVI : Hid ((Try.prog.info? 27).map (·.size) = some v.size) := by show _ = _; rw [← hv]; exact tab_size HTL.out
      have HV1 : Hid (v.all (·.oneCell') = true) := by show _ = _; rw [← hv]; exact vs_one _
      have HZV : Hid (Z.size = v.size) := by show _ = _; rw [← hv, ← HZS.out, vs_size, vs_size, zs_len, HTL.out]
      have HSC : Hid (∀ w, Calls Try.prog 10 #[.agg cs] w fun r w' => r = .returned (.tuple #[.agg v, .bool true]) ∧ Keeps (fun _ => False) w w') := by
        refine Lib.hid fun w => ?_
        rw [← hcs, ← hv, ← ht]
        refine (scaled (ones k d) w (ones_len hnb.2)).mono fun r w' ⟨h1, h2⟩ => ⟨?_, h2⟩
        rw [h1, if_pos HOK.out, decide_eq_true HOK.out]
      have HVG : Hid (∀ i, i < 256 → v[i]? = some (.int .i64 (t.getD i 0))) := fun i hi => by rw [← hv, vs_get (by rw [HTL.out]; exact hi)]
      rw [hcs] at HBC
      clear hcs ht hv HTT HH HT
      go_upto_region 11 with (first
        | (go_at_call 10; refine (HSC.out _).mono ?_; rintro e w2 ⟨rfl, hk2⟩; have HK2 := Lib.hid (HK.out.trans hk2); clear hk2 HK)
        | ((with_reducible refine ld_row HBC.out Try.underlying24 HCI.out ?_ ?_); rfl)
        | ((with_reducible refine st_row (Blk.new _ 27 Z) HVI.out HZV.out HV1.out ?_ ?_ ?_); rfl; rfl))
      generalize hW : (w2.alloc (.cells Z 27)).setRow w2.heap.size v = W
      obtain ⟨T, hT⟩ : ∃ T, w2.heap.size = T := ⟨_, rfl⟩
      have HBT : Hid (Blk W T 27 v) := by show Blk _ _ _ _; rw [← hW, ← hT]; exact Blk.setRow (Blk.new _ _ _) _
      have HKW : Hid (Keeps (fun _ => False) w1 W) := by show Keeps _ _ _; rw [← hW]; exact Keeps.setRow (HK2.out.alloc _) (.inr HK2.out.size) _
      rw [hT]
      clear hW hT HBC HK2 hz2 hz3
      go_wp2_with ((with_reducible refine ld_row HBT.out Try.underlying27 HVI.out ?_ ?_); rfl)
      go_loopw [34] (fun i wr => ∃ j : Nat, j ≤ 256 ∧ i = .int .i64 (j : Int) ∧ wr = W) (fun i _ => 256 - (intOf i).toNat)
      case atStart => exact ⟨0, by omega, rfl, rfl⟩
      case round =>
        obtain ⟨j, hj, rfl, rfl⟩ := hrel
        by_cases hlt2 : j < 256
        · obtain ⟨x, hx⟩ : ∃ x, t.getD j 0 = x := ⟨_, rfl⟩
          have hgd : ∀ w, (Instr.index 27 (.agg v) (.int .i64 (j : Int))).run Try.prog w = .ok (.int .i64 x) w := run_idx 27 256 Try.underlying27 v .i64 j _ hlt2 (by rw [HVG.out j hlt2, hx])
          have hxe := HTG.out j hlt2
          rw [hx] at hxe
          clear hx
          have hj1 : (j : Int) < 256 := by omega
          rcases Nat.eq_zero_or_pos j with rfl | hjp
          · rw [if_pos rfl] at hxe
            have hd1 : (0 : Int) < (d : Int) := by omega
            have hw4 : IntKind.i64.wrap (q + 4096) = q + 4096 := IntWalk.i64_in _ (by omega)
            have hw5 : IntKind.i64.wrap (q + 4096 - p) = x := by rw [show q + 4096 - p = x by omega]; exact IntWalk.i64_in _ (by omega)
            have hgd0 : ∀ w, (Instr.index 27 (.agg v) (.int .i64 0)).run Try.prog w = .ok (.int .i64 x) w := hgd
            clear hxe hgd
            go_wp2_with fail
            exact ⟨⟨1, by omega, by go_num, trivial⟩, by simp [intOf]⟩
          · rw [if_neg (by omega)] at hxe
            have hj0 : (0 : Int) < (j : Int) := by omega
            have hj00 : ¬ ((j : Int) = 0) := by omega
            by_cases hjd : j < d
            · rw [if_pos hjd] at hxe
              subst hxe
              have hjd1 : (j : Int) < (d : Int) := by omega
              go_wp2_with fail
              exact ⟨⟨j + 1, by omega, by go_num, trivial⟩, by simp [intOf]; omega⟩
            · rw [if_neg hjd] at hxe
              subst hxe
              have hjd1 : ¬ (j : Int) < (d : Int) := by omega
              go_wp2_with fail
              exact ⟨⟨j + 1, by omega, by go_num, trivial⟩, by simp [intOf]; omega⟩
        · obtain rfl : j = 256 := by omega
          go_wp2_with fail
          go_ret
          exact ⟨rfl, HB1.out.trans (HKW.out.below HB1.out.size (fun _ h => h.elim))⟩
  -- go_enter Try.func7, Try.ntmps7
  -- go_wp2
  -- go_ret
  -- exact ⟨rfl, by repeat (first | exact Grown.refl _ | apply Grown.drew | apply Grown.alloc)⟩

set_option maxRecDepth 100000 in
theorem lifted (os : Os) (started : os.Started) (H : Type) (enc : TypeId × Value → H) :
    ReturnsInHanded {} Try.checked os 7 .any (Rows.freqOnesSpec.pre6 enc Try.prog Try.f7 Rows.freqOnesRow.domain false) (Rows.freqOnesSpec.post enc Try.prog Try.f7 false true false false) := by
  refine returnsInHanded_of_change (C := Try.checked) own started (by kernel_rfl) Try.func7
    (ChangeSpec.witness6 (enc := enc) (C := Try.checked) false ⟨#[], #[.int .u8 0, .int .u8 0], []⟩ 8 (by kernel_rfl) (by kernel_rfl) (by kernel_rfl) (by kernel_rfl)) ?_
  intro W base args ds gs before hval0 hW hcnd _
  have hval : ∀ (j : Nat) t v, Try.f7.params[j]? = some t → args[j]? = some v → Value.okWide Try.prog W .any base t v := hval0
  have hW' := hW
  obtain ⟨p, q, hA0, hV, rfl, hfz, hnd⟩ := hW
  have hA : DataW.TrodAll enc Try.prog W 0 (fun _ => true) true Try.f7.params.toList args.toList ds p := hA0
  rw [Try.params7] at hA hval
  obtain ⟨v0, vs0, d0, ds0, p0, q0, hargs, rfl, rfl, h0, r0⟩ := trodAll_cons hA
  obtain ⟨v1, vs1, d1, ds1, p1, q1, rfl, rfl, rfl, h1, r1⟩ := trodAll_cons r0
  obtain ⟨rfl, rfl, rfl⟩ := trodAll_nil r1
  obtain rfl : args = #[v0, v1] := by cases args; simp_all
  obtain ⟨rfl, rfl⟩ := trodVars_none hV
  obtain ⟨a0, rfl, rfl, rfl, w0⟩ := open_int Try.underlying5 (hval 0 5 v0 rfl rfl) h0
  obtain ⟨a1, rfl, rfl, rfl, w1⟩ := open_int Try.underlying5 (hval 1 5 v1 rfl rfl) h1
  clear hA0 hval0
  refine (walk a0 a1 w0 w1 W).mono fun e W' ⟨he, bel⟩ => ?_
  subst he
  exact ⟨_, rfl, _, _, _, [], _, [], hW', trodAll_mk1 (shut_bool Try.underlying4 _), (trodAll_cons_mk (shut_int Try.underlying5 w0) (trodAll_cons_mk (shut_int Try.underlying5 w1) trodAll_mk0)), rfl, bel.frame _, fun h => by cases h⟩

theorem over : Rows.freqOnesRow.holds Try.pinned (OpenSpec.ofChange Rows.freqOnesSpec) :=
  OpenClaim.holds_of_wide 7 Try.f7 rfl rfl rfl rfl rfl rfl rfl ⟨rfl, rfl, rfl, rfl, rfl⟩ rfl rfl rfl rfl rfl (by kernel_rfl) Try.func7 (by kernel_rfl)
    (of_decide_eq_true (by kernel_rfl)) (by unfold Func.isWrapper; first | (rw [if_pos (by decide +kernel)]; kernel_rfl) | (rw [if_neg (by decide +kernel)]; exact ⟨rfl, rfl⟩))
    (fun os started H enc _ => lifted os started H enc)

/-- The statement, as given. -/
theorem proved : Rows.FreqOnesSaid :=
  over
end Go.Proofs.Ytjidgiobnlolpaa.freqOnes
namespace Go.Proofs.Ytjidgiobnlolpaa
/-- The statement, as given. -/
theorem freqOnes_holds : Rows.FreqOnesSaid := freqOnes.proved
#print axioms freqOnes_holds
end Go.Proofs.Ytjidgiobnlolpaa
