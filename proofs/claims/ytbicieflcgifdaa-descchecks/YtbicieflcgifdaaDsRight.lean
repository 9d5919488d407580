/- The statements' own answer to whether a way of numbers may be: as Check answers. -/
import Derived.Test.YtbicieflcgifdaaDsChk
namespace Go.Proofs.Ytbicieflcgifdaa.Ds
open Go.RowKit Go.Proofs.Ytbicieflcgifdaa.Gen Go.Proofs.Ytbicieflcgifdaa.Wr Go.Proofs.Ytbicieflcgifdaa.It Go.Proofs.Ytbicieflcgifdaa.Ir Go.Proofs.Ytbicieflcgifdaa.Ib Go.Proofs.Ytbicieflcgifdaa.Hr Go.Proofs.Ytbicieflcgifdaa.Hn Go.Proofs.Ytbicieflcgifdaa.Hk Go.Proofs.Ytbicieflcgifdaa.Ln

set_option maxHeartbeats 4000000 in
set_option maxRecDepth 100000 in
theorem right_ (A : Option Addr) (n c : Nat) (d : D) (w : World) (h : Ents w A n d.L) :
    Calls Try.prog 30 #[.agg (dv A n c d)] w fun r w' => r = .returned (.int .i64 (chkI d)) ∧ Keeps (fun _ => False) w w' := by
  obtain ⟨K, B, L, le, bi⟩ := d
  obtain ⟨e, he⟩ : ∃ e, e = chkI ⟨K, B, L, le, bi⟩ := ⟨_, rfl⟩
  rw [← he]
  unfold chkI blkE fixE at he
  simp only at he h
  have HE := Lib.hid he
  have H := Lib.hid h
  clear he h
  unfold dv
  simp only
  by_cases h1 : K = 1
  · subst h1
    rw [if_pos rfl] at HE
    by_cases b1 : B < 1
    · go_enter Try.func30, Try.ntmps30
      go_wp2
      go_ret
      exact ⟨by rw [HE.out, if_pos (.inl b1)]; try rfl, (Keeps.refl _ _).alloc _⟩
    · by_cases b2 : 60000 < B
      · go_enter Try.func30, Try.ntmps30
        go_wp2
        go_ret
        exact ⟨by rw [HE.out, if_pos (.inr b2)]; try rfl, (Keeps.refl _ _).alloc _⟩
      · go_enter Try.func30, Try.ntmps30
        go_wp2
        go_ret
        exact ⟨by rw [HE.out, if_neg (by omega)]; try rfl, (Keeps.refl _ _).alloc _⟩
  · have hn1 : (K == 1) = false := by simpa using h1
    rw [if_neg h1] at HE
    by_cases h3 : K = 3
    · subst h3
      rw [if_pos rfl] at HE
      have HN := Lib.hid (fun w (h : Ents w A n L) => new_e A n c L w h)
      have HA := Lib.hid (H.out.more ((Keeps.refl _ w).alloc (.cells #[.int .u8 3, .int .i64 B, .slice A n c, .int .i64 le, .int .i64 bi] 38)))
      go_enter Try.func30, Try.ntmps30
      go_wp2_with (
        refine (HN.out _ HA.out).mono ?_
        rintro e w' ⟨⟨p, rfl⟩, hk⟩
        have HK := Lib.hid hk
        clear hk)
      go_ret
      exact ⟨by rw [HE.out]; try rfl, ((Keeps.refl _ _).alloc _).trans HK.out⟩
    · have hn3 : (K == 3) = false := by simpa using h3
      rw [if_neg h3] at HE
      by_cases h6 : K = 6
      · subst h6
        rw [if_pos rfl] at HE
        by_cases q1 : le < -2147483647
        · go_enter Try.func30, Try.ntmps30
          go_wp2
          go_ret
          exact ⟨by rw [HE.out, if_pos (.inl q1)]; try rfl, (Keeps.refl _ _).alloc _⟩
        · by_cases q2 : 2147483647 < le
          · go_enter Try.func30, Try.ntmps30
            go_wp2
            go_ret
            exact ⟨by rw [HE.out, if_pos (.inr (.inl q2))]; try rfl, (Keeps.refl _ _).alloc _⟩
          · by_cases q3 : bi < 0
            · go_enter Try.func30, Try.ntmps30
              go_wp2
              go_ret
              exact ⟨by rw [HE.out, if_pos (.inr (.inr (.inl q3)))]; try rfl, (Keeps.refl _ _).alloc _⟩
            · by_cases q4 : 31 < bi
              · go_enter Try.func30, Try.ntmps30
                go_wp2
                go_ret
                exact ⟨by rw [HE.out, if_pos (.inr (.inr (.inr q4)))]; try rfl, (Keeps.refl _ _).alloc _⟩
              · go_enter Try.func30, Try.ntmps30
                go_wp2
                go_ret
                exact ⟨by rw [HE.out, if_neg (by omega)]; try rfl, (Keeps.refl _ _).alloc _⟩
      · have hn6 : (K == 6) = false := by simpa using h6
        rw [if_neg h6] at HE
        go_enter Try.func30, Try.ntmps30
        go_wp2
        go_ret
        exact ⟨by rw [HE.out]; try rfl, (Keeps.refl _ _).alloc _⟩
end Go.Proofs.Ytbicieflcgifdaa.Ds
