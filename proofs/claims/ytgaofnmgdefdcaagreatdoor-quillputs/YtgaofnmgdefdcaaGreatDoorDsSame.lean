/- Which ways are the same (desc's SameInts, SameArrays): all of them. -/
import Derived.Test.YtgaofnmgdefdcaaGreatDoorJItfWrDsPl
import Derived.Laws.StructEq
namespace Go.Proofs.YtgaofnmgdefdcaaGreatDoor.Ds
open Go.RowKit Go.Proofs.YtgaofnmgdefdcaaGreatDoor.Gen Go.Proofs.YtgaofnmgdefdcaaGreatDoor.Wr Go.Proofs.YtgaofnmgdefdcaaGreatDoor.It Go.Proofs.YtgaofnmgdefdcaaGreatDoor.Ir Go.Proofs.YtgaofnmgdefdcaaGreatDoor.Ib Go.Proofs.YtgaofnmgdefdcaaGreatDoor.Tw Go.Proofs.YtgaofnmgdefdcaaGreatDoor.Hr Go.Proofs.YtgaofnmgdefdcaaGreatDoor.Hz Go.Proofs.YtgaofnmgdefdcaaGreatDoor.Hn Go.Proofs.YtgaofnmgdefdcaaGreatDoor.Hk Go.Proofs.YtgaofnmgdefdcaaGreatDoor.Ln

theorem run_neq_ent (a b : G) (r : Bool) (hr : decide (a = b) = r) (w : World) : (binOp .neq 87 (.agg #[.int .i64 a.1, .int .i64 a.2]) (.agg #[.int .i64 b.1, .int .i64 b.2])).run Tryz.prog w = .ok (.bool (!r)) w := by
  obtain ⟨a1, a2⟩ := a
  obtain ⟨b1, b2⟩ := b
  rw [run_neq_struct]
  have hu : Tryz.prog.underlying 87 = some (.struct (Tryz.prog.fieldsOf 87)) := by kernel_rfl
  have hp : Tryz.prog.stoodInHeld 87 = false := by kernel_rfl
  rw [run_equalIn_struct w 9999 87 _ _ hu hp]
  obtain ⟨f, g, hfs, hf, hg, h1, h2, h3, h4⟩ : ∃ f g : Field, (Tryz.prog.fieldsOf 87).toList = [f, g] ∧ f.name ≠ "_" ∧ g.name ≠ "_" ∧ f.type = 3 ∧ g.type = 3 ∧ f.offset = 0 ∧ g.offset = 1 := by
    refine ⟨(Tryz.prog.fieldsOf 87)[0]!, (Tryz.prog.fieldsOf 87)[1]!, by kernel_rfl, by decide +kernel, by decide +kernel, by kernel_rfl, by kernel_rfl, by kernel_rfl, by kernel_rfl⟩
  have hag : (isAgg 3).run Tryz.prog w = .ok false w := by simp [isAgg, Tryz.underlying3, go_sem]
  rw [hfs]
  have e1 : (part f.type #[Value.int .i64 a1, .int .i64 a2] f.offset).run Tryz.prog w = .ok (.int .i64 a1) w := by rw [h1, h3]; simp [part, hag]
  have e2 : (part f.type #[Value.int .i64 b1, .int .i64 b2] f.offset).run Tryz.prog w = .ok (.int .i64 b1) w := by rw [h1, h3]; simp [part, hag]
  have e3 : (part g.type #[Value.int .i64 a1, .int .i64 a2] g.offset).run Tryz.prog w = .ok (.int .i64 a2) w := by rw [h2, h4]; simp [part, hag]
  have e4 : (part g.type #[Value.int .i64 b1, .int .i64 b2] g.offset).run Tryz.prog w = .ok (.int .i64 b2) w := by rw [h2, h4]; simp [part, hag]
  have e5 : (Op.equalIn 9999 f.type (.int .i64 a1) (.int .i64 b1)).run Tryz.prog w = .ok (a1 == b1) w := by rw [h1]; exact run_equalIn_int w 9998 3 .i64 .i64 _ _ Tryz.underlying3
  have e6 : (Op.equalIn 9999 g.type (.int .i64 a2) (.int .i64 b2)).run Tryz.prog w = .ok (a2 == b2) w := by rw [h2]; exact run_equalIn_int w 9998 3 .i64 .i64 _ _ Tryz.underlying3
  rw [← hr]
  by_cases c1 : a1 = b1
  · subst c1
    by_cases c2 : a2 = b2
    · subst c2
      simp [Op.eqFields, hf, hg, e1, e3, e5, e6, e2, e4]
    · have hq : (a2 == b2) = false := by simpa using c2
      rw [hq] at e6
      simp [Op.eqFields, hf, hg, e1, e3, e5, e6, e2, e4, c2]
  · have hq : (a1 == b1) = false := by simpa using c1
    rw [hq] at e5
    simp [Op.eqFields, hf, e1, e2, e5, c1]

set_option maxHeartbeats 8000000 in
set_option maxRecDepth 100000 in
theorem equal_ (A A' : Option Addr) (n n' c c' : Nat) (L M : List G) (w : World) (hL : Ents w A n L) (hM : Ents w A' n' M) :
    Calls Tryz.prog 84 #[.slice A n c, .slice A' n' c'] w fun r w' => r = .returned (.bool (decide (L = M))) ∧ Keeps (fun _ => False) w w' := by
  have HL := Lib.hid hL
  have HM := Lib.hid hM
  have HNN : Hid (n ≤ 1000 ∧ n' ≤ 1000) := ⟨hL.2.2, hM.2.2⟩
  clear hL hM
  by_cases hn : n = n'
  · subst hn
    have hneq : ((n : Int) != (n : Int)) = false := by simp
    go_enter Tryz.func84, Tryz.ntmps84
    go_wp2_with fail
    go_loopw [5, 13] (fun _ i wr => ∃ j : Nat, i = .int .i64 (j : Int) ∧ j ≤ n ∧ Hid (Keeps (fun _ => False) w wr ∧ ∀ i, i < j → L.getD i (0, 0) = M.getD i (0, 0))) (fun _ i _ => n - (intOf i).toNat)
    case atStart => exact ⟨0, rfl, by omega, Lib.hid ⟨Keeps.refl _ _, fun i hi => by omega⟩⟩
    case round =>
      obtain ⟨j, rfl, hj, HH⟩ := hrel
      by_cases hlt : j < n
      · obtain ⟨b, o, rfl, hb, h0, h1⟩ := g_item (HL.out.more HH.out.1).1 (j := j) (by rw [HL.out.2.1]; exact hlt)
        obtain ⟨b', o', rfl, hb', h0', h1'⟩ := g_item (HM.out.more HH.out.1).1 (j := j) (by rw [HM.out.2.1]; exact hlt)
        obtain ⟨x, hx⟩ : ∃ x, L.getD j (0, 0) = x := ⟨_, rfl⟩
        obtain ⟨y, hy⟩ : ∃ y, M.getD j (0, 0) = y := ⟨_, rfl⟩
        rw [hx] at h0 h1
        rw [hy] at h0' h1'
        obtain ⟨r, hr⟩ : ∃ r, decide (x = y) = r := ⟨_, rfl⟩
        have hne := fun w => run_neq_ent _ _ r hr w
        have HRR := Lib.hid hr
        have HX := Lib.hid hx
        have HY := Lib.hid hy
        clear hx hy
        obtain ⟨x1, x2⟩ := x
        obtain ⟨y1, y2⟩ := y
        simp only at h0 h1 h0' h1' hne
        have hj0 : (j : Int) < (n : Int) := by omega
        have hj1 : (0 : Int) ≤ (j : Int) := by omega
        have hjw : IntKind.i64.wrap ((j : Int) + 1) = (j : Int) + 1 := IntWalk.i64_in _ (by have := HNN.out; omega)
        have HLT := Lib.hid hlt
        clear hr hlt
        cases r with
        | true =>
          have he : x1 = y1 ∧ x2 = y2 := by have := HRR.out; simpa using this
          go_upto_region 6 with fail
          go_region
          all_goals go_wp2_with fail
          all_goals refine ⟨⟨j + 1, by go_num, by have := HLT.out; omega, Lib.hid ⟨HH.out.1.drewN 1, ?_⟩⟩, by have := HLT.out; simp [intOf]; omega⟩
          all_goals
            intro i hi
            rcases Nat.lt_or_ge i j with h | h
            · exact HH.out.2 i h
            · obtain rfl : i = j := by omega
              rw [HX.out, HY.out, he.1, he.2]
        | false =>
          go_upto_region 6 with fail
          go_region
          all_goals go_wp2_with fail
          all_goals go_ret
          all_goals refine ⟨?_, HH.out.1.drewN 1⟩
          all_goals
            have : L ≠ M := fun e => by
              have h := HRR.out
              rw [← HX.out, ← HY.out, e] at h
              simp at h
            rw [decide_eq_false this]
            rfl
      · obtain rfl : j = n := by omega
        go_wp2
        go_ret
        refine ⟨?_, HH.out.1⟩
        have : L = M := by
          apply List.ext_getElem (by rw [HL.out.2.1, HM.out.2.1])
          intro i h1 h2
          have := HH.out.2 i (by rw [← HL.out.2.1]; exact h1)
          rw [List.getD_eq_getElem?_getD, List.getD_eq_getElem?_getD, List.getElem?_eq_getElem h1, List.getElem?_eq_getElem h2] at this
          exact this
        rw [decide_eq_true this]
        rfl
  · have hneq : ((n : Int) != (n' : Int)) = true := by simp; omega
    go_enter Tryz.func84, Tryz.ntmps84
    go_wp2
    go_ret
    refine ⟨?_, Keeps.refl _ _⟩
    have : L ≠ M := fun e => hn (by rw [← HL.out.2.1, ← HM.out.2.1, e])
    rw [decide_eq_false this]
    rfl
/-- Are two ways the same in all? -/
def sameI (a b : D) : Bool := a.K == b.K && a.B == b.B && decide (a.L = b.L) && a.le == b.le && a.bi == b.bi
def sameA (a b : E) : Bool := sameI a.d b.d && a.K == b.K && a.B == b.B && a.S == b.S
theorem sameI_iff (a b : D) : sameI a b = true ↔ a = b := by
  obtain ⟨a1, a2, a3, a4, a5⟩ := a
  obtain ⟨b1, b2, b3, b4, b5⟩ := b
  simp [sameI, and_assoc]
theorem sameA_iff (a b : E) : sameA a b = true ↔ a = b := by
  obtain ⟨a0, a1, a2, a3⟩ := a
  obtain ⟨b0, b1, b2, b3⟩ := b
  simp [sameA, sameI_iff, and_assoc]

end Go.Proofs.YtgaofnmgdefdcaaGreatDoor.Ds
