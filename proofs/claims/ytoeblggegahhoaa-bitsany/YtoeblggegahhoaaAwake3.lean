/- Awake, the fixed fact of layer 3's statements, answers true; nothing that was there turns. No conditions. -/
import Derived.Test.YtoeblggegahhoaaBitTwo
namespace Go.Proofs.Ytoeblggegahhoaa.Aw
open Go.RowKit Go.Proofs.Ytoeblggegahhoaa.Gen Go.Proofs.Ytoeblggegahhoaa.Cl Go.Proofs.Ytoeblggegahhoaa.Bp Go.Proofs.Ytoeblggegahhoaa.Bf Go.Proofs.Ytoeblggegahhoaa.Bw

theorem five : ([] : List Nat) ++ tb 5 (sz 3) = [1, 0, 1] := by decide
theorem awake (w : World) : Calls Try.prog 5 #[] w fun r w' => r = .returned (.bool true) ∧ Below w.heap.size w w' := by
  go_enter Try.func5, Try.ntmps5
  go_wp2_with fail
  refine (by exact put _ _ _ [] 5 3 _ (new_bw w) (by simp) (by omega) : Calls Try.prog _ #[.pointer (some ⟨w.heap.size, 0, none⟩), .int .u32 5, .int .i64 3] _ (Puts w.heap.size w.heap.size (.slice none 0 0) ([] ++ tb 5 (sz 3)) _)).mono ?_
  rintro e w1 hp
  obtain rfl := hp.1
  rw [five] at hp
  obtain ⟨v1, hw1, hk1⟩ := Has.next (new_bw w) ((Keeps.refl _ _).alloc _) hp
  have HW := Lib.hid hw1
  have HK := Lib.hid hk1
  clear hp hw1 hk1
  go_wp2_with fail
  refine (Bw.bytes _ _ v1 [1, 0, 1] _ HW.out (by simp)).mono ?_
  rintro e w2 ⟨A, c, ys, n, hn, rfl, hpk, hby, hv, hk⟩
  obtain rfl : ys = [160] := packed_one hpk ⟨by decide, by decide⟩ hby (by decide)
  subst hn
  have hc := (Lies.of_own hv).str_n (P := Try.prog) 1 rfl 22 9 5 c Try.underlying22 Try.underlying5 Try.underlying9
  rw [show strOfNums [160] = ⟨#[160]⟩ from rfl] at hc
  have HK2 := Lib.hid hk
  clear hv hk hpk hby
  go_wp2_with fail
  refine (len_bw _ _ v1 [1, 0, 1] 3 _ (HW.out.keeps HK2.out (fun _ _ => id)) (by simp) rfl).mono ?_
  rintro e w3 ⟨rfl, nd, rfl⟩
  go_wp2
  go_ret
  exact ⟨rfl, below_drewN ((HK.out.trans (HK2.out.mono fun _ _ h => h.elim)).below (Nat.le_refl _) (fun _ h => h)) _⟩
end Go.Proofs.Ytoeblggegahhoaa.Aw
