/- Awake, the fixed fact of layer 9's statements, answers true; nothing that was there turns. No conditions. -/
import Derived.Test.YtbicieflcgifdaaDsPutA
namespace Go.Proofs.Ytbicieflcgifdaa.Ds
open Go.RowKit Go.Proofs.Ytbicieflcgifdaa.Gen Go.Proofs.Ytbicieflcgifdaa.Wr Go.Proofs.Ytbicieflcgifdaa.Ww Go.Proofs.Ytbicieflcgifdaa.It Go.Proofs.Ytbicieflcgifdaa.Iw Go.Proofs.Ytbicieflcgifdaa.Ir Go.Proofs.Ytbicieflcgifdaa.Ib Go.Proofs.Ytbicieflcgifdaa.Tw Go.Proofs.Ytbicieflcgifdaa.Hr Go.Proofs.Ytbicieflcgifdaa.Hn Go.Proofs.Ytbicieflcgifdaa.Hk Go.Proofs.Ytbicieflcgifdaa.Ln

theorem byt17 : ([] : List Int) ++ bytI ⟨1, 7, [], 0, 0⟩ = [1, 7] := by decide
theorem Wro.all {base g : Nat} {v : Value} {ys : List Int} {w wr : World} (h : Wro base g v ys w wr) (hb : base ≤ g) (hv : v.ownBlock = none) : (∃ v1, IsWr base g v1 ys wr) ∧ Keeps (· = g) w wr := by
  obtain ⟨v1, h1, h2, _⟩ := h
  refine ⟨⟨v1, h1⟩, h2.mono fun k _ hk => ?_⟩
  rcases hk with e | e
  · exact e
  · rw [hv] at e
    cases e
set_option maxHeartbeats 4000000 in
set_option maxRecDepth 100000 in
theorem awake (w : World) : Calls Try.prog 14 #[] w fun r w' => r = .returned (.bool true) ∧ Keeps (fun _ => False) w w' := by
  have HP := Lib.hid (put_i w.heap.size w.heap.size (.slice none 0 0) [] none 0 0 ⟨1, 7, [], 0, 0⟩ _ (new_of 47 (by decide) w) ⟨.inl rfl, rfl, by omega⟩ (fun h => absurd h (by omega)) (by simp) (by decide))
  unfold dv at HP
  simp only at HP
  rw [byt17] at HP
  go_enter Try.func14, Try.ntmps14
  go_wp2_with (first
    | (go_at_call 19
       refine HP.out.mono ?_
       rintro e w1 ⟨rfl, hw1⟩
       obtain ⟨⟨v1, hv1⟩, hk1⟩ := hw1.all (Nat.le_refl _) rfl
       have HV := Lib.hid hv1
       have HK : Hid (Keeps (fun _ => False) w w1) := Lib.hid ((Keeps.refl _ w).trans ⟨hk1.os, hk1.tape, hk1.output, Nat.le_trans (by simp) hk1.size, fun k hk _ => (hk1.block k (by simp; omega) (by omega)).trans (Below.heap_alloc _ _ _ hk)⟩)
       clear hw1 hv1 hk1)
    | (go_at_call 22
       refine (bytes_n _ _ v1 [1, 7] 2 _ rfl HV.out).mono ?_
       rintro e w2 ⟨A, c, rfl, hv, hk⟩
       have hc := (Lies.of_own hv).str_n (P := Try.prog) 2 rfl 22 9 5 c Try.underlying22 Try.underlying5 Try.underlying9
       rw [show strOfNums [1, 7] = ⟨#[1, 7]⟩ from rfl] at hc
       have HK2 := Lib.hid hk
       clear hv hk))
  go_ret
  exact ⟨rfl, HK.out.trans HK2.out⟩
end Go.Proofs.Ytbicieflcgifdaa.Ds
