/- Counts of items, as many numbers as may be. -/
import Derived.Test.YtaamnbminmcbpaaAwake5
namespace Go.Proofs.Ytaamnbminmcbpaa.Hc
open Go.RowKit Go.Shelf Go.Lib Go.Sort Go.Proofs.Ytaamnbminmcbpaa.Gen Go.Proofs.Ytaamnbminmcbpaa.Mp Go.Proofs.Ytaamnbminmcbpaa.Hr Go.Proofs.Ytaamnbminmcbpaa.Hp Go.Proofs.Ytaamnbminmcbpaa.Hm Go.Proofs.Ytaamnbminmcbpaa.Hg Go.Proofs.Ytaamnbminmcbpaa.So Go.Proofs.Ytaamnbminmcbpaa.Hs Go.Proofs.Ytaamnbminmcbpaa.Hf Go.Proofs.Ytaamnbminmcbpaa.Hz Go.Proofs.Ytaamnbminmcbpaa.Ha

/-- Structs of two numbers lie there, one by one. -/
def PairsAt (k0 k1 : IntKind) (w : World) (a : Option Addr) (len : Nat) : Prop :=
  ∀ i, i < len → ∃ b o x y, a = some ⟨b, o, none⟩ ∧ b < w.heap.size ∧ w.cell? ⟨b, o + i * 2, none⟩ = some (.int k0 x) ∧ w.cell? ⟨b, o + i * 2 + 1, none⟩ = some (.int k1 y) ∧ (Lit.int k0 x).wf = true ∧ (Lit.int k1 y).wf = true
theorem PairsAt.keeps {k0 k1 : IntKind} {w w1 : World} {a : Option Addr} {len : Nat} (h : PairsAt k0 k1 w a len) (k : Keeps (fun _ => False) w w1) : PairsAt k0 k1 w1 a len := by
  intro i hi
  obtain ⟨b, o, x, y, h1, h2, h3, h4, h5⟩ := h i hi
  exact ⟨b, o, x, y, h1, Nat.lt_of_lt_of_le h2 k.size, (k.cell (p := ⟨b, o + i * 2, none⟩) h2 id).trans h3, (k.cell (p := ⟨b, o + i * 2 + 1, none⟩) h2 id).trans h4, h5⟩
/-- What a row says of a slice of structs that came in. -/
theorem pairs_at {k0 k1 : IntKind} {w : World} {a : Option Addr} {len cap : Nat} {zs : List (Int × Int)}
    (h : (a = none ∧ len = 0 ∧ cap = 0 ∧ zs = []) ∨ ∃ x, a = some x ∧ len ≤ cap ∧ cap ≤ maxLen ∧ zs.length = cap ∧ ∀ i, i < zs.length → w.cell? (x.add (i * 2)) = some (.int k0 (zs.getD i (0, 0)).1) ∧ w.cell? (x.add (i * 2 + 1)) = some (.int k1 (zs.getD i (0, 0)).2) ∧ (Lit.int k0 (zs.getD i (0, 0)).1).wf = true ∧ (Lit.int k1 (zs.getD i (0, 0)).2).wf = true) :
    PairsAt k0 k1 w a len := by
  rcases h with ⟨rfl, rfl, rfl, rfl⟩ | ⟨x, rfl, hl, _, hz, hc⟩
  · exact fun i hi => absurd hi (by omega)
  · intro i hi
    obtain ⟨b, o, sp⟩ := x
    obtain ⟨h0, h1, h2, h3⟩ := hc i (by omega)
    have hsp : sp = none := by simpa [Addr.add] using World.cell?_spot (hc 0 (by omega)).1
    subst hsp
    rw [add_none] at h0 h1
    refine ⟨b, o, _, _, rfl, ?_, h0, h1, h2, h3⟩
    rcases Nat.lt_or_ge b w.heap.size with hlt | hge
    · exact hlt
    · simp [World.cell?, Array.getElem?_eq_none hge] at h0
/-- Counts that a small map holds. -/
def Small (m : List (Int × Nat)) : Prop := ∀ p ∈ m, (1 ≤ p.2 ∧ p.2 ≤ 999) ∧ -32768 ≤ p.1 ∧ p.1 ≤ 32767
/-- A count, stored. -/
def updN (m : List (Int × Nat)) (k : Int) (v : Nat) : List (Int × Nat) := m.filter (fun p => !(p.1 == k)) ++ [(k, v)]
theorem upd_mv (m : List (Int × Nat)) (k : Int) (v : Nat) : upd (mv m) (.int .i64 k) (.int .i64 (v : Int)) = mv (updN m k v) := by
  unfold upd updN
  rw [mv_app]
  congr 1
  simp only [mv, List.filter_map]
  congr 1
  refine List.filter_congr fun p _ => ?_
  simp only [Function.comp_def, Lit.sameKey]
  rw [Bool.eq_iff_iff]
  simp
theorem updN_small {m : List (Int × Nat)} (h : Small m) {k : Int} {v : Nat} (hv : 1 ≤ v ∧ v ≤ 999) (hk : -32768 ≤ k ∧ k ≤ 32767) : Small (updN m k v) := by
  intro p hp
  unfold updN at hp
  rcases List.mem_append.1 hp with hp | hp
  · exact h p ((List.mem_filter.1 hp).1)
  · rw [List.mem_singleton] at hp
    subst hp
    exact ⟨hv, hk⟩
theorem updN_len {m : List (Int × Nat)} {k : Int} {v : Nat} : (updN m k v).length ≤ m.length + 1 := by
  unfold updN
  have := List.length_filter_le (fun p : Int × Nat => !(p.1 == k)) m
  simp only [List.length_append, List.length_singleton]
  omega
theorem bounds_i16 {x : Int} (h : (Lit.int .i16 x).wf = true) : -32768 ≤ x ∧ x ≤ 32767 := by
  have hm : IntKind.i16.min = -32768 ∧ IntKind.i16.max = 32767 := by decide
  simp [Lit.wf, hm.1, hm.2] at h
  omega
theorem bounds_u16 {x : Int} (h : (Lit.int .u16 x).wf = true) : 0 ≤ x ∧ x ≤ 65535 := by
  have hm : IntKind.u16.min = 0 ∧ IntKind.u16.max = 65535 := by decide
  simp [Lit.wf, hm.1, hm.2] at h
  omega

set_option maxHeartbeats 1600000 in
set_option maxRecDepth 4000 in
theorem counts_ (A : Option Addr) (len cap most : Nat) (w : World) (h : PairsAt .i16 .u16 w A len) (hl : len ≤ 1000) (hm : most ≤ 1000) :
    Calls Try.prog 9 #[.slice A len cap, .int .i64 (most : Int)] w fun r w' => ∃ b, r = .returned (.map (some b)) ∧ ∃ m, IsM Try.prog 3 w' b (mv m) ∧ w.heap.size ≤ b ∧ m.length ≤ most ∧ Small m ∧ Keeps (fun _ => False) w w' := by
  have hmm := @run_makeMap Try.prog
  have HP := Lib.hid h
  clear h
  go_enter Try.func9, Try.ntmps9
  have HM0 := Lib.hid (IsM.new Try.prog 3 w)
  have HK0 := Lib.hid ((Keeps.refl (fun _ => False) w).alloc (.map #[] 0))
  go_wp2
  obtain ⟨bm, hbm⟩ : ∃ bm, bm = w.heap.size := ⟨_, rfl⟩
  rw [← hbm] at HM0 ⊢
  have HBM := Lib.hid hbm
  clear hbm
  go_loopw [11] (fun i wr => ∃ (d : Nat) (m : List (Int × Nat)), d ≤ len ∧ i = .int .i64 (d : Int) ∧ IsM Try.prog 3 wr bm (mv m) ∧ m.length ≤ most ∧ Small m ∧ Keeps (fun _ => False) w wr) (fun i _ => len - (intOf i).toNat)
  case atStart => exact ⟨0, [], by omega, rfl, HM0.out, by simp, by simp [Small], HK0.out⟩
  case round =>
    clear HM0 HK0
    obtain ⟨d, m, hd, rfl, him, hml, hsm, hk⟩ := hrel
    have HM := Lib.hid him
    have HS := Lib.hid hsm
    have HK := Lib.hid hk
    clear him hsm hk
    by_cases hlt : d < len
    · obtain ⟨b, o, x, y, rfl, _, h0, h1, hx, hy⟩ := (HP.out.keeps HK.out) d hlt
      have bx := bounds_i16 hx
      have bY := bounds_u16 hy
      obtain ⟨yn, rfl⟩ := Int.eq_ofNat_of_zero_le bY.1
      obtain ⟨n, hn⟩ : ∃ n, n = m.length := ⟨_, rfl⟩
      have HN := Lib.hid hn
      have HMA := Lib.hid (HM.out.keeps ((Keeps.refl (fun _ => False) wr).alloc (.cells #[.int .i16 x, .int .u16 (yn : Int)] 63)) id)
      have HKA := Lib.hid (HK.out.alloc (.cells #[.int .i16 x, .int .u16 (yn : Int)] 63))
      have hwx : (Lit.int .i64 x).wf = true := wf_of (by omega)
      have hd0 : (0 : Int) ≤ (d : Int) := by omega
      have hd1 : (d : Int) < (len : Int) := by omega
      rw [← hn] at hml
      have hfit : IntKind.i64.wrap x = x := by simp [IntKind.wrap, IntKind.bits, IntKind.signed]; omega
      clear hx hy hn hlt
      by_cases hmo : n < most
      · have hmoi : (n : Int) < (most : Int) := by omega
        have HSM := Lib.hid (updN_small HS.out (k := x) (v := 1 + yn % 999) (by omega) bx)
        have HUL : Hid ((updN m x (1 + yn % 999)).length ≤ most) := by
          have := updN_len (m := m) (k := x) (v := 1 + yn % 999)
          have h2 := HN.out
          show _ ≤ _
          omega
        have hyv : (1 : Int) + (yn : Int) % 999 = ((1 + yn % 999 : Nat) : Int) := by omega
        have HYV := Lib.hid hyv
        have HWX := Lib.hid hwx
        clear hmo hyv hwx
        go_wp2_with (first
          | (at_len
             refine wpList_len_m _ rfl _ _ rfl 3 3 Try.underlying24 bm n (mv m) rfl HMA.out (by rw [mv_len]; exact HN.out.symm) ?_)
          | (at_mapUpdate
             refine wpList_update_m _ rfl (.tmp 19) (.tmp 22) (.tmp 27) _ rfl 3 3 int_key Try.underlying24 bm (mv m) rfl HMA.out (by rw [mv_len, ← HN.out]; omega) (.int .i64 x) (.int .i64 (1 + (yn : Int) % 999)) _ rfl rfl (key_i x HWX.out) ?_
             intro w3 h3 k3
             rw [HYV.out, upd_mv] at h3
             have HM3 := Lib.hid h3
             have HK3 := Lib.hid (keeps_low HKA.out k3 (fun z hz => by have := HBM.out; omega))
             clear h3 k3))
        refine ⟨⟨d + 1, _, by omega, by go_num, HM3.out, HUL.out, HSM.out, HK3.out⟩, by simp [intOf]; omega⟩
      · have hmoi : ¬ ((n : Int) < (most : Int)) := by omega
        clear hmo
        go_wp2_with (
          at_len
          refine wpList_len_m _ rfl _ _ rfl 3 3 Try.underlying24 bm n (mv m) rfl HMA.out (by rw [mv_len]; exact HN.out.symm) ?_)
        refine ⟨⟨d + 1, m, by omega, by go_num, HMA.out, by have := HN.out; omega, HS.out, HKA.out⟩, by simp [intOf]; omega⟩
    · obtain rfl : d = len := by omega
      have hge : ¬ ((d : Int) < (d : Int)) := by omega
      clear hlt
      go_wp2
      go_ret
      exact ⟨bm, rfl, m, HM.out, by rw [HBM.out]; exact Nat.le_refl _, hml, HS.out, HK.out⟩
end Go.Proofs.Ytaamnbminmcbpaa.Hc
