/- Counts of items, as many numbers as may be. -/
import Derived.Test.YtaamnbminmcbpaaDoorAwake5
namespace Go.Proofs.YtaamnbminmcbpaaDoor.Hc
open Go.RowKit Go.Shelf Go.Lib Go.Sort Go.Proofs.YtaamnbminmcbpaaDoor.Gen Go.Proofs.YtaamnbminmcbpaaDoor.Mp Go.Proofs.YtaamnbminmcbpaaDoor.Hr Go.Proofs.YtaamnbminmcbpaaDoor.Hp Go.Proofs.YtaamnbminmcbpaaDoor.Hm Go.Proofs.YtaamnbminmcbpaaDoor.Hg Go.Proofs.YtaamnbminmcbpaaDoor.So Go.Proofs.YtaamnbminmcbpaaDoor.Hs Go.Proofs.YtaamnbminmcbpaaDoor.Hf Go.Proofs.YtaamnbminmcbpaaDoor.Hz Go.Proofs.YtaamnbminmcbpaaDoor.Ha

/-- Structs of two numbers lie there, one by one. -/
def PairsAt (k0 k1 : IntKind) (w : World) (a : Option Addr) (len : Nat) : Prop :=
  ∀ i, i < len → ∃ b o x y, a = some ⟨b, o, none⟩ ∧ b < w.heap.size ∧ w.cell? ⟨b, o + i * 2, none⟩ = some (.int k0 x) ∧ w.cell? ⟨b, o + i * 2 + 1, none⟩ = some (.int k1 y) ∧ (Lit.int k0 x).wf = true ∧ (Lit.int k1 y).wf = true
theorem PairsAt.keeps {k0 k1 : IntKind} {w w1 : World} {a : Option Addr} {len : Nat} (h : PairsAt k0 k1 w a len) (k : Keeps (fun _ => False) w w1) : PairsAt k0 k1 w1 a len := by
  intro i hi
  obtain ⟨b, o, x, y, h1, h2, h3, h4, h5⟩ := h i hi
  exact ⟨b, o, x, y, h1, Nat.lt_of_lt_of_le h2 k.size, (k.cell (p := ⟨b, o + i * 2, none⟩) h2 id).trans h3, (k.cell (p := ⟨b, o + i * 2 + 1, none⟩) h2 id).trans h4, h5⟩
/-- What a row says of a slice of structs that came in. -/
theorem pairs_at {k0 k1 : IntKind} {w : World} {a : Option Addr} {len cap : Nat} {zs : List (Int × Int)}
    (h : (a = none ∧ len = 0 ∧ cap = 0 ∧ zs = []) ∨ ∃ x, a = some x ∧ len ≤ cap ∧ cap ≤ maxLen ∧ zs.length = cap ∧ ∀ i, i < zs.length → w.cell? (x.add (i * 2)) = some (.int k0 (zs.getD i (0, 0)).1) ∧ w.cell? (x.add (i * 2 + 1)) = some (.int k1 (zs.getD i (0, 0)).2) ∧ (Lit.int k0 (zs.getD i (0, 0)).1).wf = true ∧ (Lit.int k1 (zs.getD i (0, 0)).2).wf = true) :
    PairsAt k0 k1 w a len := by
  rcases h with ⟨rfl, rfl, rfl, rfl⟩ | ⟨x, rfl, hl, _, hz, hc⟩
  · exact fun i hi => absurd hi (by omega)
  · intro i hi
    obtain ⟨b, o, sp⟩ := x
    obtain ⟨h0, h1, h2, h3⟩ := hc i (by omega)
    have hsp : sp = none := by simpa [Addr.add] using World.cell?_spot (hc 0 (by omega)).1
    subst hsp
    rw [add_none] at h0 h1
    refine ⟨b, o, _, _, rfl, ?_, h0, h1, h2, h3⟩
    rcases Nat.lt_or_ge b w.heap.size with hlt | hge
    · exact hlt
    · simp [World.cell?, Array.getElem?_eq_none hge] at h0
/-- Counts that a small map holds. -/
def Small (m : List (Int × Nat)) : Prop := ∀ p ∈ m, (1 ≤ p.2 ∧ p.2 ≤ 999) ∧ -32768 ≤ p.1 ∧ p.1 ≤ 32767
/-- A count, stored. -/
def updN (m : List (Int × Nat)) (k : Int) (v : Nat) : List (Int × Nat) := m.filter (fun p => !(p.1 == k)) ++ [(k, v)]
theorem upd_mv (m : List (Int × Nat)) (k : Int) (v : Nat) : upd (mv m) (.int .i64 k) (.int .i64 (v : Int)) = mv (updN m k v) := by
  unfold upd updN
  rw [mv_app]
  congr 1
  simp only [mv, List.filter_map]
  congr 1
  refine List.filter_congr fun p _ => ?_
  simp only [Function.comp_def, Lit.sameKey]
  rw [Bool.eq_iff_iff]
  simp
theorem updN_small {m : List (Int × Nat)} (h : Small m) {k : Int} {v : Nat} (hv : 1 ≤ v ∧ v ≤ 999) (hk : -32768 ≤ k ∧ k ≤ 32767) : Small (updN m k v) := by
  intro p hp
  unfold updN at hp
  rcases List.mem_append.1 hp with hp | hp
  · exact h p ((List.mem_filter.1 hp).1)
  · rw [List.mem_singleton] at hp
    subst hp
    exact ⟨hv, hk⟩
theorem updN_len {m : List (Int × Nat)} {k : Int} {v : Nat} : (updN m k v).length ≤ m.length + 1 := by
  unfold updN
  have := List.length_filter_le (fun p : Int × Nat => !(p.1 == k)) m
  simp only [List.length_append, List.length_singleton]
  omega
theorem bounds_i16 {x : Int} (h : (Lit.int .i16 x).wf = true) : -32768 ≤ x ∧ x ≤ 32767 := by
  have hm : IntKind.i16.min = -32768 ∧ IntKind.i16.max = 32767 := by decide
  simp [Lit.wf, hm.1, hm.2] at h
  omega
theorem bounds_u16 {x : Int} (h : (Lit.int .u16 x).wf = true) : 0 ≤ x ∧ x ≤ 65535 := by
  have hm : IntKind.u16.min = 0 ∧ IntKind.u16.max = 65535 := by decide
  simp [Lit.wf, hm.1, hm.2] at h
  omega

end Go.Proofs.YtaamnbminmcbpaaDoor.Hc
