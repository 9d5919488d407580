/- The statements' own number that is put (Act.Number): any act, any way that may be. No conditions beyond these. -/
import Derived.Test.YtgaofnmgdefdcaaGreatDoorJDsAnyDsBack
import Derived.Test.YtgaofnmgdefdcaaGreatDoorDsSmE
import Derived.BigQuiet
namespace Go.Proofs.YtgaofnmgdefdcaaGreatDoor.Qn
open Go.RowKit Go.Proofs.YtgaofnmgdefdcaaGreatDoor.Gen Go.Proofs.YtgaofnmgdefdcaaGreatDoor.Hr Go.Proofs.YtgaofnmgdefdcaaGreatDoor.Hn Go.Proofs.YtgaofnmgdefdcaaGreatDoor.Ds

/-- The number that is put. -/
def numOf (N wh : Int) (d : D) : Int :=
  if wh % 16 = 0 then N else if d.K = 3 then (d.L.getD (wh % d.L.length).toNat (0, 0)).1 else if d.K = 6 then d.le + (N % 4294967296) % 2 ^ d.bi.toNat else min (max N (-2147483647)) 2147483647
/-- An act's value. -/
def actv (way N wh : Int) (A : Option Addr) (n c : Nat) (arr : Bool) : Array Value := #[.int .u8 way, .int .i64 N, .int .u8 wh, .slice A n c, .bool arr]
theorem and_mask {x : Int} {b : Nat} (h0 : 0 ≤ x) (h1 : x < 4294967296) (hb : b ≤ 31) : bits .and .i64 x (2 ^ b - 1) = x % 2 ^ b := by
  obtain ⟨X, rfl⟩ := Int.eq_ofNat_of_zero_le h0
  have h2 : (2 : Int) ^ b = ((2 ^ b : Nat) : Int) := by simp
  have h3 := Nat.two_pow_pos b
  have h4 : 2 ^ b ≤ 2147483648 := by
    have := Nat.pow_le_pow_right (n := 2) (by decide) hb
    omega
  have h5 : (2 : Int) ^ b - 1 = ((2 ^ b - 1 : Nat) : Int) := by omega
  have hx : X &&& (2 ^ b - 1) = X % 2 ^ b := Nat.and_two_pow_sub_one_eq_mod X b
  have hlt : X % 2 ^ b < 2147483648 := by have := Nat.mod_lt X h3; omega
  rw [h5]
  show IntKind.i64.wrap ((BitVec.ofInt 64 (X : Int) &&& BitVec.ofInt 64 ((2 ^ b - 1 : Nat) : Int)).toNat : Int) = _
  rw [BitVec.toNat_and, ofInt_u64 X (by omega), ofInt_u64 (2 ^ b - 1) (by omega), hx, IntWalk.i64_in _ (by omega), h2]
  omega

set_option maxHeartbeats 8000000 in
set_option maxRecDepth 100000 in
theorem number_ (way N wh : Int) (Ab : Option Addr) (nb cb : Nat) (arr : Bool) (A : Option Addr) (n c : Nat) (d : D) (w : World) (hN : -9223372036854775808 ≤ N ∧ N ≤ 9223372036854775807) (hw : 0 ≤ wh ∧ wh < 256) (hd : chkI d = 0) (hL : Ents w A n d.L) :
    Calls Tryz.prog 14 #[.agg (actv way N wh Ab nb cb arr), .agg (dv A n c d)] w fun r w' => r = .returned (.int .i64 (numOf N wh d)) ∧ Keeps (fun _ => False) w w' := by
  obtain ⟨p, hp⟩ : ∃ p, numOf N wh d = p := ⟨_, rfl⟩
  rw [hp]
  have HP := Lib.hid hp
  have HK : Hid (Keeps (fun _ => False) w ((w.alloc (.cells (actv way N wh Ab nb cb arr) 33)).alloc (.cells (dv A n c d) 43))) := ((Keeps.refl _ _).alloc _).alloc _
  have HLL := Lib.hid (hL.more HK.out)
  have hm : wh.tmod 16 = wh % 16 := Int.tmod_eq_emod_of_nonneg hw.1
  have hci := chkI_in hd
  clear hp hL hd
  obtain ⟨K, Bl, L, le, bi⟩ := d
  unfold actv at HK HLL ⊢
  unfold dv at HK HLL ⊢
  simp only at HK HLL hci ⊢
  by_cases h16 : wh % 16 = 0
  · have HE : Hid (p = N) := by show p = N; rw [← HP.out, numOf, if_pos h16]
    go_enter Tryz.func14, Tryz.ntmps14
    go_wp2
    go_ret
    exact ⟨by rw [HE.out]; rfl, HK.out⟩
  · have h16b : (wh % 16 == 0) = false := by simpa using h16
    have HPE : Hid (p = if K = 3 then (L.getD (wh % L.length).toNat (0, 0)).1 else if K = 6 then le + (N % 4294967296) % 2 ^ bi.toNat else min (max N (-2147483647)) 2147483647) := by show p = _; rw [← HP.out, numOf, if_neg h16]
    clear HP
    by_cases h3 : K = 3
    · subst h3
      have hnew : Hid (newE L = 0) := by
        show newE L = 0
        rcases hci with h | h | h
        · omega
        · exact h.2
        · omega
      have HN0 := Lib.hid (newE_zero hnew.out).1
      have HLN : Hid (L.length = n) := HLL.out.2.1
      have hn1 : 1 ≤ n := by have := HN0.out; have := HLN.out; omega
      have hne1 : ¬ ((n : Int) = 0) := by omega
      have hne2 : ¬ (n = 0) := by omega
      obtain ⟨j, hj⟩ := Int.eq_ofNat_of_zero_le (Int.emod_nonneg wh hne1)
      have hjn : j < n := by have := Int.emod_lt_of_pos wh (show (0 : Int) < n by omega); omega
      have hrem : wh.tmod (n : Int) = (j : Int) := by rw [Int.tmod_eq_emod_of_nonneg hw.1]; exact hj
      have HE : Hid (p = (L.getD j (0, 0)).1) := by
        show p = _
        rw [HPE.out, if_pos rfl, HLN.out, hj, Int.toNat_natCast]
      obtain ⟨b, o, rfl, hb, h0, h1⟩ := g_item HLL.out.1 (j := j) (by rw [HLN.out]; exact hjn)
      obtain ⟨⟨x1, x2⟩, hx⟩ : ∃ q, q = L.getD j (0, 0) := ⟨_, rfl⟩
      rw [← hx] at h0 h1 HE
      simp only at h0 h1 HE
      have hj0 : (0 : Int) ≤ (j : Int) := by omega
      have hj1 : (j : Int) < (n : Int) := by omega
      clear hx hj hci HPE HLL h1 hb hn1
      go_enter Tryz.func14, Tryz.ntmps14
      go_upto_region 4 with fail
      go_region
      all_goals go_wp2
      all_goals go_ret
      all_goals exact ⟨by rw [HE.out]; rfl, HK.out.drewN 1⟩
    · have h3b : (K == 3) = false := by simpa using h3
      by_cases h6 : K = 6
      · subst h6
        have hr : (-2147483647 ≤ le ∧ le ≤ 2147483647) ∧ 0 ≤ bi ∧ bi ≤ 31 := by
          rcases hci with h | h | h
          · omega
          · omega
          · exact h.2
        obtain ⟨b, rfl⟩ := Int.eq_ofNat_of_zero_le hr.2.1
        obtain ⟨u, hu⟩ : ∃ u, N % 4294967296 = u := ⟨_, rfl⟩
        have hu0 : 0 ≤ u ∧ u < 4294967296 := by omega
        obtain ⟨v, hv⟩ : ∃ v, u % 2 ^ b = v := ⟨_, rfl⟩
        have HE : Hid (p = le + v) := by
          show p = _
          rw [HPE.out, if_neg (by decide), if_pos rfl, hu, Int.toNat_natCast, hv]
        have hpw : (2 : Int) ^ b ≤ 2147483648 := by
          have h1 := Nat.pow_le_pow_right (n := 2) (by decide) (show b ≤ 31 by omega)
          have h2 : (2 : Int) ^ b = ((2 ^ b : Nat) : Int) := by simp
          omega
        have hpp : (1 : Int) ≤ 2 ^ b := by
          have h2 : (2 : Int) ^ b = ((2 ^ b : Nat) : Int) := by simp
          have := Nat.two_pow_pos b
          omega
        have hv0 : 0 ≤ v ∧ v < 2147483648 := by
          have h1 := Int.emod_nonneg u (show (2 : Int) ^ b ≠ 0 by omega)
          have h2 := Int.emod_lt_of_pos u (show (0 : Int) < 2 ^ b by omega)
          omega
        have HM := Lib.hid (and_mask (b := b) hu0.1 hu0.2 (by omega))
        obtain ⟨Z, hZ⟩ : ∃ Z, (2 : Int) ^ b = Z := ⟨_, rfl⟩
        have hsh : IntKind.i64.wrap (2 ^ b) = Z := by rw [hZ]; exact IntWalk.i64_in _ (by omega)
        have hsb : IntKind.i64.wrap (Z - 1) = Z - 1 := IntWalk.i64_in _ (by omega)
        have hun : IntKind.u32.wrap N = u := by rw [← hu]; exact IntKind.wrap_u32 N
        have hui : IntKind.i64.wrap u = u := IntWalk.i64_in _ (by omega)
        have hand : bits .and .i64 u (Z - 1) = v := by rw [← hZ, HM.out, hv]
        have hsum : IntKind.i64.wrap (le + v) = le + v := IntWalk.i64_in _ (by omega)
        have hb0 : (0 : Int) ≤ (b : Int) := by omega
        have hbn : ((b : Int)).toNat = b := Int.toNat_natCast b
        have HV : Hid (wrap64 (le + bits .and .i64 u (wrap64 (wrap64 (2 ^ min b 64) - 1))) = le + v) := by
          show wrap64 (le + bits .and .i64 u (wrap64 (wrap64 (2 ^ min b 64) - 1))) = le + v
          have hZ1 : 1 ≤ Z ∧ Z ≤ 2147483648 := by omega
          rw [show min b 64 = b by omega, hZ, show wrap64 Z = Z by unfold wrap64; omega, show wrap64 (Z - 1) = Z - 1 by unfold wrap64; omega, hand]
          unfold wrap64
          omega
        clear hsh hsb hand hsum
        clear hci HPE HLL hu hv hZ hpw hpp HM hr hN hw
        go_enter Tryz.func14, Tryz.ntmps14
        go_upto_region 6 with fail
        go_region
        all_goals go_wp2
        all_goals go_ret
        all_goals exact ⟨by rw [HE.out, ← HV.out]; rfl, HK.out.drewN 1⟩
      · have h6b : (K == 6) = false := by simpa using h6
        have HE : Hid (p = min (max N (-2147483647)) 2147483647) := by show p = _; rw [HPE.out, if_neg h3, if_neg h6]
        obtain ⟨m1, hm1⟩ : ∃ m1, max N (-2147483647) = m1 := ⟨_, rfl⟩
        obtain ⟨m2, hm2⟩ : ∃ m2, min m1 2147483647 = m2 := ⟨_, rfl⟩
        have r1 := fun ts t w => run_mx (P := Tryz.prog) ts t N (-2147483647) m1 hm1 w
        have r2 := fun ts t w => run_mini (P := Tryz.prog) ts t m1 2147483647 m2 hm2 w
        have HE2 : Hid (p = m2) := by show p = m2; rw [HE.out, hm1, hm2]
        clear hm1 hm2
        go_enter Tryz.func14, Tryz.ntmps14
        go_wp2
        go_ret
        exact ⟨by rw [HE2.out]; rfl, HK.out⟩
end Go.Proofs.YtgaofnmgdefdcaaGreatDoor.Qn
