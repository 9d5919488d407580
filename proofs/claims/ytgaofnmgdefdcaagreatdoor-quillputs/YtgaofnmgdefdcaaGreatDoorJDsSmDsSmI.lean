/- Ways by small numbers, as plain data: they may be, and hold nothing that doesn't belong to their kind (desc). Names no function of the program. -/
/- The statements' own ways by small numbers (Small.Ints): the two kinds that hold no entries. -/
import Derived.Test.YtgaofnmgdefdcaaGreatDoorJDsAnyDsBack

namespace Go.Proofs.YtgaofnmgdefdcaaGreatDoor.Ds
open Go.RowKit Go.Proofs.YtgaofnmgdefdcaaGreatDoor.Gen Go.Proofs.YtgaofnmgdefdcaaGreatDoor.Wr Go.Proofs.YtgaofnmgdefdcaaGreatDoor.It Go.Proofs.YtgaofnmgdefdcaaGreatDoor.Ir Go.Proofs.YtgaofnmgdefdcaaGreatDoor.Ib Go.Proofs.YtgaofnmgdefdcaaGreatDoor.Tw Go.Proofs.YtgaofnmgdefdcaaGreatDoor.Hr Go.Proofs.YtgaofnmgdefdcaaGreatDoor.Hn Go.Proofs.YtgaofnmgdefdcaaGreatDoor.Hk Go.Proofs.YtgaofnmgdefdcaaGreatDoor.Ln

/-- The least number whose power of two is no less than n (n at most 32). -/
def up2 (n : Nat) : Nat := if n ≤ 1 then 0 else if n ≤ 2 then 1 else if n ≤ 4 then 2 else if n ≤ 8 then 3 else if n ≤ 16 then 4 else 5
def smZ (n : Nat) (ev : Bool) (i : Nat) : Nat := if 1 < n ∧ ev = true then min (i + 1) (n - 1) else up2 (max n 1)
def smL (n : Nat) (ev : Bool) (le : Int) (m : Nat) : List G := (List.range m).map fun (i : Nat) => (le + 3 * (i : Int), (smZ n ev i : Int))
theorem smL_len (n : Nat) (ev : Bool) (le : Int) (m : Nat) : (smL n ev le m).length = m := by simp [smL]
theorem smL_snoc (n : Nat) (ev : Bool) (le : Int) (m : Nat) : smL n ev le (m + 1) = smL n ev le m ++ [(le + 3 * (m : Int), (smZ n ev m : Int))] := by simp [smL, List.range_succ]
theorem smZ_fin : ∀ (n : Fin 21) (ev : Bool) (i : Fin 20), smZ n.val ev i.val ≤ 20 ∧ (smZ n.val ev i.val = 0 → n.val ≤ 1) := by decide +kernel
theorem pos_fin : ∀ (n : Fin 21) (ev : Bool), ((List.range (max n.val 1)).map fun i => 2 ^ (20 - smZ n.val ev i)).sum ≤ 1048576 := by decide +kernel
theorem smL_pos (n : Nat) (ev : Bool) (le : Int) (m : Nat) : posOf (nats' (smL n ev le m)) = ((List.range m).map fun i => 2 ^ (20 - smZ n ev i)).sum := by
  simp only [posOf, nats', smL, List.map_map]
  rfl
theorem smL_get {n : Nat} {ev : Bool} {le : Int} {m i : Nat} (h : i < m) : (smL n ev le m).getD i (0, 0) = (le + 3 * (i : Int), (smZ n ev i : Int)) := by
  rw [List.getD_eq_getElem?_getD, smL, List.getElem?_map, List.getElem?_range h]
  rfl
theorem smL_new {n : Nat} (ev : Bool) {le : Int} (hn : n ≤ 20) (h0 : -32768 ≤ le) (h1 : le ≤ 32767) : newE (smL n ev le (max n 1)) = 0 := by
  unfold newE
  rw [smL_len, if_neg (by omega)]
  have hz : (List.range (max n 1)).find? (fun i => decide (errAt (smL n ev le (max n 1)) i ≠ 0)) = none := by
    rw [List.find?_eq_none]
    intro i hi
    rw [List.mem_range] at hi
    have hs := smZ_fin ⟨n, by omega⟩ ev ⟨i, by omega⟩
    simp only at hs
    have he : errAt (smL n ev le (max n 1)) i = 0 := by
      unfold errAt entErr
      rw [smL_len, smL_get hi, smL_get (show i - 1 < max n 1 by omega)]
      simp only
      rw [if_neg (by omega), if_neg (by omega), if_neg (by omega)]
    simp [he]
  rw [hz]
  simp only
  have hp := pos_fin ⟨n, by omega⟩ ev
  rw [smL_pos]
  exact if_neg (by simp only at hp; omega)

/-- A way by small numbers. -/
structure Sm where
  K : Int
  bi : Int
  B : Int
  le : Int
  n : Nat
  S : Int
  stop : Bool
structure Sm.ok (s : Sm) : Prop where
  K : 0 ≤ s.K ∧ s.K < 256
  bi : 0 ≤ s.bi ∧ s.bi < 256
  B : 0 ≤ s.B ∧ s.B < 65536
  le : -32768 ≤ s.le ∧ s.le ≤ 32767
  S : 0 ≤ s.S ∧ s.S < 256
def Sm.ent (s : Sm) : List G := smL (min s.n 20) (decide (s.bi % 2 = 0)) s.le (max (min s.n 20) 1)
def Sm.I (s : Sm) : D := if s.K % 3 = 0 then ⟨1, 1 + s.B % 60000, [], 0, 0⟩ else if s.K % 3 = 1 then ⟨6, 0, [], s.le, s.bi % 32⟩ else ⟨3, 0, s.ent, 0, 0⟩
def Sm.A (s : Sm) : E := if s.stop = true then ⟨D0, 5, 1 + s.B % 60000, s.S⟩ else ⟨s.I, 4, 1 + s.B % 60000, 0⟩
theorem Sm.I_ok {s : Sm} (h : s.ok) : chkI s.I = 0 ∧ clI s.I = s.I ∧ s.I.L.length ≤ 20 := by
  unfold Sm.I
  split
  · refine ⟨?_, by simp [clI], by simp⟩
    simp only [chkI, blkE]
    rw [if_pos trivial, if_neg (by omega)]
  · split
    · refine ⟨?_, by simp [clI], by simp⟩
      have := h.le
      simp only [chkI, fixE]
      rw [if_neg (by decide), if_neg (by decide), if_pos trivial, if_neg (by omega)]
    · refine ⟨?_, by simp [clI], by simp only [Sm.ent, smL_len]; omega⟩
      simp only [chkI]
      rw [if_neg (by decide), if_pos trivial]
      exact smL_new _ (by omega) h.le.1 h.le.2
theorem Sm.A_ok {s : Sm} (h : s.ok) : chkA s.A = 0 ∧ clA s.A = s.A ∧ s.A.d.L.length ≤ 20 := by
  obtain ⟨h1, h2, h3⟩ := Sm.I_ok h
  have hz : blkE (1 + s.B % 60000) = 0 := by unfold blkE; rw [if_neg (by omega)]
  unfold Sm.A
  split
  · exact ⟨by simp [chkA, hz], by simp [clA], by simp [D0]⟩
  · exact ⟨by simp [chkA, hz, h1], by simp [clA, h2], h3⟩
/-- Ways that hold nothing else are the same if their bytes are. -/
theorem byt_inj {a b : D} (ha : chkI a = 0) (hb : chkI b = 0) (ca : clI a = a) (cb : clI b = b) : bytI a = bytI b ↔ a = b := by
  refine ⟨fun h => ?_, fun h => by rw [h]⟩
  have h1 := tkI_back (all := bytI a) (k := 0) (rest := []) (d := a) (by simp) ha
  have h2 := tkI_back (all := bytI a) (k := 0) (rest := []) (d := b) (by simp [h]) hb
  rw [h1] at h2
  have := congrArg Prod.fst h2
  simp only at this
  rw [ca, cb] at this
  exact this
theorem bytA_inj {a b : E} (ha : chkA a = 0) (hb : chkA b = 0) (ca : clA a = a) (cb : clA b = b) : bytA a = bytA b ↔ a = b := by
  refine ⟨fun h => ?_, fun h => by rw [h]⟩
  have h1 := TA_back (all := bytA a) (k := 0) (rest := []) (a := a) (by simp) ha
  have h2 := TA_back (all := bytA a) (k := 0) (rest := []) (a := b) (by simp [h]) hb
  rw [h1] at h2
  have := congrArg Prod.fst h2
  simp only at this
  rw [ca, cb] at this
  exact this
end Go.Proofs.YtgaofnmgdefdcaaGreatDoor.Ds

namespace Go.Proofs.YtgaofnmgdefdcaaGreatDoor.Ds
open Go.RowKit Go.Proofs.YtgaofnmgdefdcaaGreatDoor.Gen Go.Proofs.YtgaofnmgdefdcaaGreatDoor.Wr Go.Proofs.YtgaofnmgdefdcaaGreatDoor.It Go.Proofs.YtgaofnmgdefdcaaGreatDoor.Ir Go.Proofs.YtgaofnmgdefdcaaGreatDoor.Ib Go.Proofs.YtgaofnmgdefdcaaGreatDoor.Tw Go.Proofs.YtgaofnmgdefdcaaGreatDoor.Hr Go.Proofs.YtgaofnmgdefdcaaGreatDoor.Hn Go.Proofs.YtgaofnmgdefdcaaGreatDoor.Hk Go.Proofs.YtgaofnmgdefdcaaGreatDoor.Ln

/-- Small's value. -/
def Sm.v (s : Sm) (A : Option Addr) (c : Nat) : Array Value := #[.int .u8 s.K, .int .u8 s.bi, .int .u16 s.B, .int .i16 s.le, .slice A s.n c, .int .u8 s.S, .bool s.stop]
/-- A way that a call has made: its entries lie in new memory. -/
def MadeI (d : D) (w : World) (r : Ending) (w' : World) : Prop :=
  ∃ A n c, r = .returned (.agg (dv A n c d)) ∧ Ents w' A n d.L ∧ (∀ b o, A = some ⟨b, o, none⟩ → w.heap.size ≤ b) ∧ Keeps (fun _ => False) w w'

set_option maxHeartbeats 8000000 in
set_option maxRecDepth 100000 in
theorem ints_0 (s : Sm) (A : Option Addr) (c : Nat) (w : World) (h : s.ok) (h3 : s.K % 3 = 0) : Calls Tryz.prog 13 #[.agg (s.v A c)] w (MadeI s.I w) := by
  obtain ⟨K, bi, B, le, n, S, stop⟩ := s
  have hK := h.K
  have hB := h.B
  simp only at hK hB h3
  have HI : Hid (Sm.I ⟨K, bi, B, le, n, S, stop⟩ = ⟨1, 1 + B % 60000, [], 0, 0⟩) := by show _ = _; simp [Sm.I, h3]
  have hm : K.tmod 3 = 0 := by rw [Int.tmod_eq_emod_of_nonneg hK.1]; exact h3
  have hb : B.tmod 60000 = B % 60000 := Int.tmod_eq_emod_of_nonneg hB.1
  have hr : 0 ≤ B % 60000 ∧ B % 60000 < 60000 := by omega
  clear h
  unfold Sm.v
  simp only
  go_enter Tryz.func13, Tryz.ntmps13
  go_wp2
  refine bodyPost_ret (v := .agg #[.int .u8 1, .int .i64 (1 + B % 60000), .slice none 0 0, .int .i64 0, .int .i64 0]) (by simp [results, Tryz.results13, go_sem]) rfl ?_
  · rw [HI.out]
    exact ⟨none, 0, 0, rfl, ⟨.inl rfl, rfl, by omega⟩, by simp, ((Keeps.refl _ _).alloc _).alloc _⟩

set_option maxHeartbeats 8000000 in
set_option maxRecDepth 100000 in
theorem ints_1 (s : Sm) (A : Option Addr) (c : Nat) (w : World) (h : s.ok) (h3 : s.K % 3 = 1) : Calls Tryz.prog 13 #[.agg (s.v A c)] w (MadeI s.I w) := by
  obtain ⟨K, bi, B, le, n, S, stop⟩ := s
  have hK := h.K
  have hB := h.bi
  have hl := h.le
  simp only at hK hB h3 hl
  have HI : Hid (Sm.I ⟨K, bi, B, le, n, S, stop⟩ = ⟨6, 0, [], le, bi % 32⟩) := by show _ = _; simp [Sm.I, h3]
  have hm : K.tmod 3 = 1 := by rw [Int.tmod_eq_emod_of_nonneg hK.1]; exact h3
  have hb : bi.tmod 32 = bi % 32 := Int.tmod_eq_emod_of_nonneg hB.1
  have hr : 0 ≤ bi % 32 ∧ bi % 32 < 32 := by omega
  clear h
  unfold Sm.v
  simp only
  go_enter Tryz.func13, Tryz.ntmps13
  go_wp2
  refine bodyPost_ret (v := .agg #[.int .u8 6, .int .i64 0, .slice none 0 0, .int .i64 le, .int .i64 (bi % 32)]) (by simp [results, Tryz.results13, go_sem]) rfl ?_
  · rw [HI.out]
    exact ⟨none, 0, 0, rfl, ⟨.inl rfl, rfl, by omega⟩, by simp, ((Keeps.refl _ _).alloc _).alloc _⟩
end Go.Proofs.YtgaofnmgdefdcaaGreatDoor.Ds
