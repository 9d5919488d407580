/- Awake, the fixed fact of layer 2's statements, answers true; nothing that was there turns. No conditions. -/
import Derived.Test.YtnbgcepejhggnaaItfWr
namespace Go.Proofs.Ytnbgcepejhggnaa.Aw
open Go.RowKit Go.Proofs.Ytnbgcepejhggnaa.Gen Go.Proofs.Ytnbgcepejhggnaa.Wr Go.Proofs.Ytnbgcepejhggnaa.Ww Go.Proofs.Ytnbgcepejhggnaa.It

theorem enc300 : ([] : List Int) ++ encInt 300 = [129, 44] := by decide
theorem awake (w : World) : Calls Try.prog 9 #[] w fun r w' => r = .returned (.bool true) ∧ Below w.heap.size w w' := by
  go_enter Try.func9, Try.ntmps9
  go_wp2_with fail
  refine (Iw.int _ _ _ [] 300 _ (new_of 30 (by decide) w) (by simp) (by omega) (by omega)).mono ?_
  rintro e w1 hp
  obtain rfl := hp.1
  rw [enc300] at hp
  obtain ⟨v1, hw1, hk1⟩ := Has.next (new_of 30 (by decide) w) ((Keeps.refl _ _).alloc _) hp
  have HW := Lib.hid hw1
  have HK := Lib.hid hk1
  clear hp hw1 hk1
  go_wp2_with fail
  refine (bytes_n _ _ v1 [129, 44] 2 _ rfl HW.out).mono ?_
  rintro e w2 ⟨A, c, rfl, hv, hk⟩
  have hc := (Lies.of_own hv).str_n (P := Try.prog) 2 rfl 26 9 5 c Try.underlying26 Try.underlying5 Try.underlying9
  rw [show strOfNums [129, 44] = ⟨#[129, 44]⟩ from rfl] at hc
  have HK2 := Lib.hid hk
  clear hv hk
  go_wp2
  go_ret
  exact ⟨rfl, ((HK.out.trans (HK2.out.mono fun _ _ h => h.elim)).below (Nat.le_refl _) (fun _ h => h))⟩
end Go.Proofs.Ytnbgcepejhggnaa.Aw
