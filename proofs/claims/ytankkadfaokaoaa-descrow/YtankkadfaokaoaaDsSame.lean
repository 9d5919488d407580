/- Which ways are the same (desc's SameInts, SameArrays): all of them. -/
import Derived.Test.YtankkadfaokaoaaJItfTwoDsPl
import Derived.Laws.StructEq
namespace Go.Proofs.Ytankkadfaokaoaa.Ds
open Go.RowKit Go.Proofs.Ytankkadfaokaoaa.Gen Go.Proofs.Ytankkadfaokaoaa.Wr Go.Proofs.Ytankkadfaokaoaa.It Go.Proofs.Ytankkadfaokaoaa.Ir Go.Proofs.Ytankkadfaokaoaa.Ib Go.Proofs.Ytankkadfaokaoaa.Tw Go.Proofs.Ytankkadfaokaoaa.Hr Go.Proofs.Ytankkadfaokaoaa.Hz Go.Proofs.Ytankkadfaokaoaa.Hn Go.Proofs.Ytankkadfaokaoaa.Hk Go.Proofs.Ytankkadfaokaoaa.Ln

theorem run_neq_ent (a b : G) (r : Bool) (hr : decide (a = b) = r) (w : World) : (binOp .neq 66 (.agg #[.int .i64 a.1, .int .i64 a.2]) (.agg #[.int .i64 b.1, .int .i64 b.2])).run Try.prog w = .ok (.bool (!r)) w := by
  obtain ⟨a1, a2⟩ := a
  obtain ⟨b1, b2⟩ := b
  rw [run_neq_struct]
  have hu : Try.prog.underlying 66 = some (.struct (Try.prog.fieldsOf 66)) := by kernel_rfl
  have hp : Try.prog.stoodInHeld 66 = false := by kernel_rfl
  rw [run_equalIn_struct w 9999 66 _ _ hu hp]
  obtain ⟨f, g, hfs, hf, hg, h1, h2, h3, h4⟩ : ∃ f g : Field, (Try.prog.fieldsOf 66).toList = [f, g] ∧ f.name ≠ "_" ∧ g.name ≠ "_" ∧ f.type = 3 ∧ g.type = 3 ∧ f.offset = 0 ∧ g.offset = 1 := by
    refine ⟨(Try.prog.fieldsOf 66)[0]!, (Try.prog.fieldsOf 66)[1]!, by kernel_rfl, by decide +kernel, by decide +kernel, by kernel_rfl, by kernel_rfl, by kernel_rfl, by kernel_rfl⟩
  have hag : (isAgg 3).run Try.prog w = .ok false w := by simp [isAgg, Try.underlying3, go_sem]
  rw [hfs]
  have e1 : (part f.type #[Value.int .i64 a1, .int .i64 a2] f.offset).run Try.prog w = .ok (.int .i64 a1) w := by rw [h1, h3]; simp [part, hag]
  have e2 : (part f.type #[Value.int .i64 b1, .int .i64 b2] f.offset).run Try.prog w = .ok (.int .i64 b1) w := by rw [h1, h3]; simp [part, hag]
  have e3 : (part g.type #[Value.int .i64 a1, .int .i64 a2] g.offset).run Try.prog w = .ok (.int .i64 a2) w := by rw [h2, h4]; simp [part, hag]
  have e4 : (part g.type #[Value.int .i64 b1, .int .i64 b2] g.offset).run Try.prog w = .ok (.int .i64 b2) w := by rw [h2, h4]; simp [part, hag]
  have e5 : (Op.equalIn 9999 f.type (.int .i64 a1) (.int .i64 b1)).run Try.prog w = .ok (a1 == b1) w := by rw [h1]; exact run_equalIn_int w 9998 3 .i64 .i64 _ _ Try.underlying3
  have e6 : (Op.equalIn 9999 g.type (.int .i64 a2) (.int .i64 b2)).run Try.prog w = .ok (a2 == b2) w := by rw [h2]; exact run_equalIn_int w 9998 3 .i64 .i64 _ _ Try.underlying3
  rw [← hr]
  by_cases c1 : a1 = b1
  · subst c1
    by_cases c2 : a2 = b2
    · subst c2
      simp [Op.eqFields, hf, hg, e1, e3, e5, e6, e2, e4]
    · have hq : (a2 == b2) = false := by simpa using c2
      rw [hq] at e6
      simp [Op.eqFields, hf, hg, e1, e3, e5, e6, e2, e4, c2]
  · have hq : (a1 == b1) = false := by simpa using c1
    rw [hq] at e5
    simp [Op.eqFields, hf, e1, e2, e5, c1]

set_option maxHeartbeats 8000000 in
set_option maxRecDepth 100000 in
theorem equal_ (A A' : Option Addr) (n n' c c' : Nat) (L M : List G) (w : World) (hL : Ents w A n L) (hM : Ents w A' n' M) :
    Calls Try.prog 38 #[.slice A n c, .slice A' n' c'] w fun r w' => r = .returned (.bool (decide (L = M))) ∧ Keeps (fun _ => False) w w' := by
  have HL := Lib.hid hL
  have HM := Lib.hid hM
  have HNN : Hid (n ≤ 1000 ∧ n' ≤ 1000) := ⟨hL.2.2, hM.2.2⟩
  clear hL hM
  by_cases hn : n = n'
  · subst hn
    have hneq : ((n : Int) != (n : Int)) = false := by simp
    go_enter Try.func38, Try.ntmps38
    go_wp2_with fail
    go_loopw [5, 13] (fun _ i wr => ∃ j : Nat, i = .int .i64 (j : Int) ∧ j ≤ n ∧ Hid (Keeps (fun _ => False) w wr ∧ ∀ i, i < j → L.getD i (0, 0) = M.getD i (0, 0))) (fun _ i _ => n - (intOf i).toNat)
    case atStart => exact ⟨0, rfl, by omega, Lib.hid ⟨Keeps.refl _ _, fun i hi => by omega⟩⟩
    case round =>
      obtain ⟨j, rfl, hj, HH⟩ := hrel
      by_cases hlt : j < n
      · obtain ⟨b, o, rfl, hb, h0, h1⟩ := g_item (HL.out.more HH.out.1).1 (j := j) (by rw [HL.out.2.1]; exact hlt)
        obtain ⟨b', o', rfl, hb', h0', h1'⟩ := g_item (HM.out.more HH.out.1).1 (j := j) (by rw [HM.out.2.1]; exact hlt)
        obtain ⟨x, hx⟩ : ∃ x, L.getD j (0, 0) = x := ⟨_, rfl⟩
        obtain ⟨y, hy⟩ : ∃ y, M.getD j (0, 0) = y := ⟨_, rfl⟩
        rw [hx] at h0 h1
        rw [hy] at h0' h1'
        obtain ⟨r, hr⟩ : ∃ r, decide (x = y) = r := ⟨_, rfl⟩
        have hne := fun w => run_neq_ent _ _ r hr w
        have HRR := Lib.hid hr
        have HX := Lib.hid hx
        have HY := Lib.hid hy
        clear hx hy
        obtain ⟨x1, x2⟩ := x
        obtain ⟨y1, y2⟩ := y
        simp only at h0 h1 h0' h1' hne
        have hj0 : (j : Int) < (n : Int) := by omega
        have hj1 : (0 : Int) ≤ (j : Int) := by omega
        have hjw : IntKind.i64.wrap ((j : Int) + 1) = (j : Int) + 1 := IntWalk.i64_in _ (by have := HNN.out; omega)
        have HLT := Lib.hid hlt
        clear hr hlt
        cases r with
        | true =>
          have he : x1 = y1 ∧ x2 = y2 := by have := HRR.out; simpa using this
          go_upto_region 6 with fail
          go_region
          all_goals go_wp2_with fail
          all_goals refine ⟨⟨j + 1, by go_num, by have := HLT.out; omega, Lib.hid ⟨HH.out.1.drewN 1, ?_⟩⟩, by have := HLT.out; simp [intOf]; omega⟩
          all_goals
            intro i hi
            rcases Nat.lt_or_ge i j with h | h
            · exact HH.out.2 i h
            · obtain rfl : i = j := by omega
              rw [HX.out, HY.out, he.1, he.2]
        | false =>
          go_upto_region 6 with fail
          go_region
          all_goals go_wp2_with fail
          all_goals go_ret
          all_goals refine ⟨?_, HH.out.1.drewN 1⟩
          all_goals
            have : L ≠ M := fun e => by
              have h := HRR.out
              rw [← HX.out, ← HY.out, e] at h
              simp at h
            rw [decide_eq_false this]
            rfl
      · obtain rfl : j = n := by omega
        go_wp2
        go_ret
        refine ⟨?_, HH.out.1⟩
        have : L = M := by
          apply List.ext_getElem (by rw [HL.out.2.1, HM.out.2.1])
          intro i h1 h2
          have := HH.out.2 i (by rw [← HL.out.2.1]; exact h1)
          rw [List.getD_eq_getElem?_getD, List.getD_eq_getElem?_getD, List.getElem?_eq_getElem h1, List.getElem?_eq_getElem h2] at this
          exact this
        rw [decide_eq_true this]
        rfl
  · have hneq : ((n : Int) != (n' : Int)) = true := by simp; omega
    go_enter Try.func38, Try.ntmps38
    go_wp2
    go_ret
    refine ⟨?_, Keeps.refl _ _⟩
    have : L ≠ M := fun e => hn (by rw [← HL.out.2.1, ← HM.out.2.1, e])
    rw [decide_eq_false this]
    rfl
/-- Are two ways the same in all? -/
def sameI (a b : D) : Bool := a.K == b.K && a.B == b.B && decide (a.L = b.L) && a.le == b.le && a.bi == b.bi
def sameA (a b : E) : Bool := sameI a.d b.d && a.K == b.K && a.B == b.B && a.S == b.S
theorem sameI_iff (a b : D) : sameI a b = true ↔ a = b := by
  obtain ⟨a1, a2, a3, a4, a5⟩ := a
  obtain ⟨b1, b2, b3, b4, b5⟩ := b
  simp [sameI, and_assoc]
theorem sameA_iff (a b : E) : sameA a b = true ↔ a = b := by
  obtain ⟨a0, a1, a2, a3⟩ := a
  obtain ⟨b0, b1, b2, b3⟩ := b
  simp [sameA, sameI_iff, and_assoc]

set_option maxHeartbeats 8000000 in
set_option maxRecDepth 100000 in
theorem same_i (A A' : Option Addr) (n n' c c' : Nat) (a b : D) (w : World) (ha : Ents w A n a.L) (hb : Ents w A' n' b.L) :
    Calls Try.prog 19 #[.agg (dv A n c a), .agg (dv A' n' c' b)] w fun r w' => r = .returned (.bool (sameI a b)) ∧ Keeps (fun _ => False) w w' := by
  obtain ⟨K, B, L, le, bi⟩ := a
  obtain ⟨K', B', L', le', bi'⟩ := b
  unfold dv
  simp only at ha hb ⊢
  have HA := Lib.hid ha
  have HB := Lib.hid hb
  have HQ := Lib.hid (fun w h h' => equal_ A A' n n' c c' L L' w h h')
  obtain ⟨q, hq⟩ : ∃ q, decide (L = L') = q := ⟨_, rfl⟩
  have HS : Hid (sameI ⟨K, B, L, le, bi⟩ ⟨K', B', L', le', bi'⟩ = (K == K' && B == B' && q && le == le' && bi == bi')) := by show _ = _; rw [← hq]; rfl
  rw [hq] at HQ
  obtain ⟨R, hR⟩ : ∃ R, sameI ⟨K, B, L, le, bi⟩ ⟨K', B', L', le', bi'⟩ = R := ⟨_, rfl⟩
  rw [hR] at HS ⊢
  clear hq ha hb hR
  have HK : Hid (Keeps (fun _ => False) w ((w.alloc (.cells #[.int .u8 K, .int .i64 B, .slice A n c, .int .i64 le, .int .i64 bi] 31)).alloc (.cells #[.int .u8 K', .int .i64 B', .slice A' n' c', .int .i64 le', .int .i64 bi'] 31))) := ((Keeps.refl _ _).alloc _).alloc _
  by_cases h1 : K = K'
  · have d1 : (K == K') = true := by simpa using h1
    by_cases h2 : B = B'
    · have d2 : (B == B') = true := by simpa using h2
      cases q with
      | false =>
        have HE : Hid (R = false) := by show _ = _; rw [HS.out, d1, d2]; rfl
        clear h1 h2 HS
        go_enter Try.func19, Try.ntmps19
        go_wp2_with (
          go_at_call 38
          refine (HQ.out _ (HA.out.more HK.out) (HB.out.more HK.out)).mono ?_
          rintro e w1 ⟨rfl, hk1⟩
          have HK1 := Lib.hid (HK.out.trans hk1)
          clear hk1)
        go_ret
        exact ⟨by rw [HE.out]; rfl, HK1.out⟩
      | true =>
        by_cases h4 : le = le'
        · have d4 : (le == le') = true := by simpa using h4
          have HE : Hid (R = (bi == bi')) := by show _ = _; rw [HS.out, d1, d2, d4]; simp
          have hne : w.heap.size ≠ w.heap.size + 1 := by omega
          clear h1 h2 h4 HS
          go_enter Try.func19, Try.ntmps19
          go_wp2_with (
            go_at_call 38
            refine (HQ.out _ (HA.out.more HK.out) (HB.out.more HK.out)).mono ?_
            rintro e w1 ⟨rfl, hk1⟩
            have HK1 := Lib.hid (HK.out.trans hk1)
            have hx0 : w1.cell? ⟨w.heap.size, 3, none⟩ = some (.int .i64 le) := (((Blk.new w 31 #[.int .u8 K, .int .i64 B, .slice A n c, .int .i64 le, .int .i64 bi]).alloc _).keeps hk1 id).cell 3
            have hx1 : w1.cell? ⟨w.heap.size, 4, none⟩ = some (.int .i64 bi) := (((Blk.new w 31 #[.int .u8 K, .int .i64 B, .slice A n c, .int .i64 le, .int .i64 bi]).alloc _).keeps hk1 id).cell 4
            have hbb := (Blk.new (w.alloc (.cells #[.int .u8 K, .int .i64 B, .slice A n c, .int .i64 le, .int .i64 bi] 31)) 31 #[.int .u8 K', .int .i64 B', .slice A' n' c', .int .i64 le', .int .i64 bi']).keeps hk1 id
            have hsz : (w.alloc (.cells #[.int .u8 K, .int .i64 B, .slice A n c, .int .i64 le, .int .i64 bi] 31)).heap.size = w.heap.size + 1 := by simp
            rw [hsz] at hbb
            have hy0 : w1.cell? ⟨w.heap.size + 1, 3, none⟩ = some (.int .i64 le') := hbb.cell 3
            have hy1 : w1.cell? ⟨w.heap.size + 1, 4, none⟩ = some (.int .i64 bi') := hbb.cell 4
            clear hk1 hbb hsz)
          go_ret
          exact ⟨by rw [HE.out]; rfl, HK1.out⟩
        · have d4 : (le == le') = false := by simpa using h4
          have HE : Hid (R = false) := by show _ = _; rw [HS.out, d1, d2, d4]; rfl
          clear h1 h2 h4 HS
          go_enter Try.func19, Try.ntmps19
          go_wp2_with (
            go_at_call 38
            refine (HQ.out _ (HA.out.more HK.out) (HB.out.more HK.out)).mono ?_
            rintro e w1 ⟨rfl, hk1⟩
            have HK1 := Lib.hid (HK.out.trans hk1)
            have hx0 : w1.cell? ⟨w.heap.size, 3, none⟩ = some (.int .i64 le) := (((Blk.new w 31 #[.int .u8 K, .int .i64 B, .slice A n c, .int .i64 le, .int .i64 bi]).alloc _).keeps hk1 id).cell 3
            have hbb := (Blk.new (w.alloc (.cells #[.int .u8 K, .int .i64 B, .slice A n c, .int .i64 le, .int .i64 bi] 31)) 31 #[.int .u8 K', .int .i64 B', .slice A' n' c', .int .i64 le', .int .i64 bi']).keeps hk1 id
            have hsz : (w.alloc (.cells #[.int .u8 K, .int .i64 B, .slice A n c, .int .i64 le, .int .i64 bi] 31)).heap.size = w.heap.size + 1 := by simp
            rw [hsz] at hbb
            have hy0 : w1.cell? ⟨w.heap.size + 1, 3, none⟩ = some (.int .i64 le') := hbb.cell 3
            clear hk1 hbb hsz)
          go_ret
          exact ⟨by rw [HE.out]; rfl, HK1.out⟩
    · have d2 : (B == B') = false := by simpa using h2
      have HE : Hid (R = false) := by show _ = _; rw [HS.out, d1, d2]; rfl
      clear h1 h2 HS
      go_enter Try.func19, Try.ntmps19
      go_wp2_with fail
      go_ret
      exact ⟨by rw [HE.out]; rfl, HK.out⟩
  · have d1 : (K == K') = false := by simpa using h1
    have HE : Hid (R = false) := by show _ = _; rw [HS.out, d1]; rfl
    clear h1 HS
    go_enter Try.func19, Try.ntmps19
    go_wp2_with fail
    go_ret
    exact ⟨by rw [HE.out]; rfl, HK.out⟩
end Go.Proofs.Ytankkadfaokaoaa.Ds
