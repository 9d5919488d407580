/- Awake, the fixed fact of layer 1's statements, answers true; nothing that was there turns. No conditions. -/
import Derived.Test.YtlidnejookcbjaaWireRd
namespace Go.Proofs.Ytlidnejookcbjaa.Aw
open Go.RowKit Go.Proofs.Ytlidnejookcbjaa.Gen Go.Proofs.Ytlidnejookcbjaa.Wr

theorem lies4 (w : World) : Lies (w.alloc (.cells #[.int .u8 1, .int .u8 2, .int .u8 0, .int .u8 0] 5)) (some ⟨w.heap.size, 0, none⟩) [1, 2, 0, 0] := by
  refine .inr ⟨w.heap.size, 0, rfl, by simp, fun i hi => ?_⟩
  have hb := Blk.new w 5 #[.int .u8 1, .int .u8 2, .int .u8 0, .int .u8 0]
  rw [hb.cell]
  simp at hi
  match i, hi with
  | 0, _ => rfl
  | 1, _ => rfl
  | 2, _ => rfl
  | 3, _ => rfl
theorem word4 : (RS.mk [1, 2, 0, 0] 0 0).word = (513, RS.mk [1, 2, 0, 0] 4 0) := rfl

theorem awake (w : World) : Calls Try.prog 6 #[] w fun r w' => r = .returned (.bool true) ∧ Below w.heap.size w w' := by
  go_enter Try.func6, Try.ntmps6
  go_wp2_with fail
  refine (read _ 4 [1, 2, 0, 0] _ (lies4 w) (by simp) (by simp)).mono ?_
  rintro e w1 ⟨g, rfl, hr, hk⟩
  have HR := Lib.hid hr
  clear hr
  go_wp2_with fail
  refine (word g _ _ _ HR.out).mono ?_
  rintro e w2 ⟨rfl, hr2, hk2⟩
  rw [word4] at hr2 ⊢
  have HR2 := Lib.hid hr2
  clear hr2
  go_wp2_with fail
  refine (end_ g _ _ _ HR2.out).mono ?_
  rintro e w3 ⟨rfl, n, rfl⟩
  go_wp2
  go_ret
  have hg := HR.out.1
  have hb : Below w.heap.size w w1 := (((Keeps.refl (fun _ => False) w).alloc _).trans hk).below (Nat.le_refl _) (fun _ h => h.elim)
  refine ⟨rfl, below_drewN (hb.trans (hk2.below (Nat.le_trans (by simp) hk.size) fun k hk => ?_)) _⟩
  subst hk
  simp at hg
  omega
end Go.Proofs.Ytlidnejookcbjaa.Aw
