/- Awake, the fixed fact of layer 4's statements, answers true; nothing that was there turns. No conditions. -/
import Derived.Test.YtbehchibgkgpbaaCrcPut
import Derived.Lib.SlBytesConst
namespace Go.Proofs.Ytbehchibgkgpbaa.Aw
open Go.RowKit Go.Proofs.Ytbehchibgkgpbaa.Gen Go.Proofs.Ytbehchibgkgpbaa.Cp Go.Proofs.Ytbehchibgkgpbaa.Ct Go.Proofs.Ytbehchibgkgpbaa.Cs Go.Proofs.Ytbehchibgkgpbaa.Cu

theorem nine : sumOf (nat [49, 50, 51, 52, 53, 54, 55, 56, 57]) = 3421780262 := by decide +kernel
theorem nine_byt : Byt [49, 50, 51, 52, 53, 54, 55, 56, 57] := by unfold Byt; decide
theorem lies_marked (w : World) (xs : List Int) (f : Nat × Nat) : Lies (w.alloc (.cells (bv xs).toArray 5 f)) (some ⟨w.heap.size, 0, none⟩) xs := by
  refine .inr ⟨_, _, rfl, by simp, ?_⟩
  intro i hi
  rw [cell_of_row _ _ (0 + i) _ 5 f (heap_alloc_new w _)]
  simpa using bv_at hi
theorem nine_cells : (bv [49, 50, 51, 52, 53, 54, 55, 56, 57]).toArray = #[.int .u8 49, .int .u8 50, .int .u8 51, .int .u8 52, .int .u8 53, .int .u8 54, .int .u8 55, .int .u8 56, .int .u8 57] := rfl
theorem awake (w : World) : Calls Try.prog 7 #[] w fun r w' => r = .returned (.bool true) ∧ Below w.heap.size w w' := by
  go_enter Try.func7, Try.ntmps7
  go_wp2_with fail
  refine (new_ w).mono ?_
  rintro e w1 ⟨rfl, hb, hk⟩
  have HB := Lib.hid hb
  have HK := Lib.hid hk
  have hl := lies_marked w1 [49, 50, 51, 52, 53, 54, 55, 56, 57] (9, 10)
  have hcv := Lib.run_convert_bytes_const (P := Try.prog) w1 22 5 (bv [49, 50, 51, 52, 53, 54, 55, 56, 57]).toArray 9 9 Try.underlying22 Try.underlying5
  rw [show (bv [49, 50, 51, 52, 53, 54, 55, 56, 57]).toArray.size = 9 from rfl] at hcv
  have hb2 := hb.alloc (.cells (bv [49, 50, 51, 52, 53, 54, 55, 56, 57]).toArray 5 (9, 10))
  have hk2 := hk.alloc (.cells (bv [49, 50, 51, 52, 53, 54, 55, 56, 57]).toArray 5 (9, 10))
  rw [nine_cells] at hcv hl hb2 hk2
  generalize w1.alloc (.cells #[.int .u8 49, .int .u8 50, .int .u8 51, .int .u8 52, .int .u8 53, .int .u8 54, .int .u8 55, .int .u8 56, .int .u8 57] 5 (9, 10)) = w2 at *
  have HL := Lib.hid hl
  have HB2 := Lib.hid hb2
  have HK2 := Lib.hid hk2
  clear hb hk hl hb2 hk2 HB HK
  go_wp2_with fail
  refine (sum_one w.heap.size 9 9 3421780262 (some ⟨w1.heap.size, 0, none⟩) [49, 50, 51, 52, 53, 54, 55, 56, 57] w2 HB2.out HL.out nine_byt rfl (by omega) nine).mono ?_
  rintro e w3 ⟨rfl, hw3⟩
  have HK3 : Hid (Keeps (fun _ => False) w w3) := by rw [hw3]; exact HK2.out.alloc _
  clear hw3 HL HB2 HK2
  go_wp2
  go_ret
  exact ⟨rfl, HK3.out.below (Nat.le_refl _) (fun _ h => h.elim)⟩
end Go.Proofs.Ytbehchibgkgpbaa.Aw
