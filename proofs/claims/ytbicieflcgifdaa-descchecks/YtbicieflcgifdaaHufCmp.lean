/- cmp.Compare of whole numbers. -/
import Derived.Test.YtbicieflcgifdaaHufRow
import Derived.Lib.Small
namespace Go.Proofs.Ytbicieflcgifdaa.Cm
open Go.RowKit Go.Proofs.Ytbicieflcgifdaa.Gen

theorem nanI_ (x : Int) (w : World) : Calls Try.prog 101 #[.int .i64 x] w fun r w' => r = .returned (.bool false) ∧ w' = w := by
  go_enter Try.func101, Try.ntmps101
  go_wp2
  all_goals
    go_ret
    refine ⟨?_, rfl⟩
    simp
theorem cmpI_ (x y : Int) (w : World) : Calls Try.prog 92 #[.int .i64 x, .int .i64 y] w fun r w' => r = .returned (.int .i64 (Go.Lib.compareInt x y)) ∧ w' = w := by
  have H1 := Lib.hid (fun w => nanI_ x w)
  have H2 := Lib.hid (fun w => nanI_ y w)
  go_enter Try.func92, Try.ntmps92
  go_wp2_with (
    first
      | (refine (H1.out _).mono ?_; clear H1; rintro e w' ⟨rfl, rfl⟩)
      | (refine (H2.out _).mono ?_; rintro e w' ⟨rfl, rfl⟩))
  all_goals
    go_ret
    refine ⟨?_, rfl⟩
    unfold Go.Lib.compareInt
    try simp_all
    try (first | omega | (split <;> first | rfl | omega))
end Go.Proofs.Ytbicieflcgifdaa.Cm
