/- What is wrong with an entry (huff's checkEntry): any numbers, any sizes. -/
/- Words as keys of a map, and as its elements; a code in memory: words of numbers, numbers of words. -/
import Derived.Test.YtgaofnmgdefdcaaGreatDoorJHufWordHufSf
import Derived.DeepKeys4

namespace Go.Proofs.YtgaofnmgdefdcaaGreatDoor.Hn
open Go.RowKit Go.Shelf Go.Sort Go.Proofs.YtgaofnmgdefdcaaGreatDoor.Gen Go.Proofs.YtgaofnmgdefdcaaGreatDoor.Mp Go.Proofs.YtgaofnmgdefdcaaGreatDoor.Hr Go.Proofs.YtgaofnmgdefdcaaGreatDoor.Hp Go.Proofs.YtgaofnmgdefdcaaGreatDoor.Hg Go.Proofs.YtgaofnmgdefdcaaGreatDoor.So Go.Proofs.YtgaofnmgdefdcaaGreatDoor.Hs Go.Proofs.YtgaofnmgdefdcaaGreatDoor.Hf Go.Proofs.YtgaofnmgdefdcaaGreatDoor.Hz Go.Proofs.YtgaofnmgdefdcaaGreatDoor.St Go.Proofs.YtgaofnmgdefdcaaGreatDoor.Ln Go.Proofs.YtgaofnmgdefdcaaGreatDoor.Hw Go.Proofs.YtgaofnmgdefdcaaGreatDoor.Ss

/-- Any entry's cells. -/
abbrev G := Int × Int
def gvs (l : List G) : List Value := l.flatMap fun x => [.int .i64 x.1, .int .i64 x.2]
def ints (l : List (Int × Nat)) : List G := l.map fun p => (p.1, (p.2 : Int))
def nats' (l : List G) : List (Int × Nat) := l.map fun p => (p.1, p.2.toNat)
theorem gvs_ints (l : List (Int × Nat)) : gvs (ints l) = evs l := by simp only [gvs, ints, evs, List.flatMap_map]; rfl
theorem nats_ints' (l : List (Int × Nat)) : nats' (ints l) = l := by
  simp only [nats', ints, List.map_map]
  conv => rhs; rw [← List.map_id l]
  exact List.map_congr_left fun p _ => by simp
theorem ints_nats {l : List G} (h : ∀ p ∈ l, 0 ≤ p.2) : ints (nats' l) = l := by
  simp only [nats', ints, List.map_map]
  conv => rhs; rw [← List.map_id l]
  refine List.map_congr_left fun p hp => ?_
  have := h p hp
  simp only [Function.comp_def, id]
  rw [show ((p.2.toNat : Nat) : Int) = p.2 by omega]
theorem gvs_len (l : List G) : (gvs l).length = l.length * 2 := by
  induction l with
  | nil => rfl
  | cons a l ih => simp only [gvs, List.flatMap_cons, List.length_append, List.length_cons] at ih ⊢; rw [ih]; simp; omega
theorem gvs_get0 : ∀ (l : List G) (j : Nat), j < l.length → (gvs l)[j * 2]? = some (.int .i64 (l.getD j (0, 0)).1)
  | [], j, h => by simp at h
  | a :: l, 0, _ => by simp [gvs]
  | a :: l, j + 1, h => by
    have := gvs_get0 l j (by simpa using h)
    simp only [gvs, List.flatMap_cons] at this ⊢
    rw [show (j + 1) * 2 = j * 2 + 1 + 1 by omega]
    simpa using this
theorem gvs_get1 : ∀ (l : List G) (j : Nat), j < l.length → (gvs l)[j * 2 + 1]? = some (.int .i64 (l.getD j (0, 0)).2)
  | [], j, h => by simp at h
  | a :: l, 0, _ => by simp [gvs]
  | a :: l, j + 1, h => by
    have := gvs_get1 l j (by simpa using h)
    simp only [gvs, List.flatMap_cons] at this ⊢
    rw [show (j + 1) * 2 + 1 = j * 2 + 1 + 1 + 1 by omega]
    simpa using this
theorem g_item {w : World} {A : Option Addr} {l : List G} (h : RowAt w A (gvs l)) {j : Nat} (hj : j < l.length) :
    ∃ b o, A = some ⟨b, o, none⟩ ∧ b < w.heap.size ∧ w.cell? ⟨b, o + j * 2, none⟩ = some (.int .i64 (l.getD j (0, 0)).1) ∧ w.cell? ⟨b, o + j * 2 + 1, none⟩ = some (.int .i64 (l.getD j (0, 0)).2) := by
  have hl := gvs_len l
  rcases h with h | ⟨b, o, rfl, hb, hc⟩
  · rw [h] at hl; simp at hl; omega
  · refine ⟨b, o, rfl, hb, ?_, ?_⟩
    · rw [hc _ (by omega), gvs_get0 l j hj]
    · rw [Nat.add_assoc, hc _ (by omega), gvs_get1 l j hj]
/-- What is wrong with the i-th entry x, behind one of number p. -/
def entErr (n i : Nat) (x : G) (p : Int) : Int :=
  if ¬ (-2147483647 ≤ x.1 ∧ x.1 ≤ 2147483647) ∨ x.2 < 0 ∨ 20 < x.2 then 2 else if x.2 = 0 ∧ 1 < n then 13 else if 0 < i ∧ x.1 ≤ p then 21 else 0
def errAt (L : List G) (i : Nat) : Int := entErr L.length i (L.getD i (0, 0)) (L.getD (i - 1) (0, 0)).1

set_option maxHeartbeats 4000000 in
set_option maxRecDepth 100000 in
theorem check_ (A : Option Addr) (n c i : Nat) (L : List G) (x : G) (w : World) (hL : RowAt w A (gvs L)) (hn : L.length = n) (hs : n ≤ 1000) (hi : i < n) :
    Calls Tryz.prog 82 #[.slice A n c, .int .i64 (i : Int), .agg #[.int .i64 x.1, .int .i64 x.2]] w fun r w' => r = .returned (.int .i64 (entErr n i x (L.getD (i - 1) (0, 0)).1)) ∧ Keeps (fun _ => False) w w' := by
  obtain ⟨x1, x2⟩ := x
  obtain ⟨b, o, rfl, hb, h0, _⟩ := g_item (w := w) (l := L) hL (j := i - 1) (by omega)
  obtain ⟨p, hp⟩ : ∃ p, p = (L.getD (i - 1) (0, 0)).1 := ⟨_, rfl⟩
  rw [← hp] at h0 ⊢
  have hcp := (RowAt.keeps (S := fun _ => False) hL ((Keeps.refl _ w).alloc (.cells #[.int .i64 x1, .int .i64 x2] 87)) (fun _ _ _ => id))
  have hc1 : (w.alloc (.cells #[.int .i64 x1, .int .i64 x2] 87)).cell? ⟨b, o + (i - 1) * 2, none⟩ = some (.int .i64 p) := by
    rw [((Keeps.refl (fun _ => False) w).alloc (.cells #[.int .i64 x1, .int .i64 x2] 87)).cell (p := ⟨b, o + (i - 1) * 2, none⟩) hb id]
    exact h0
  obtain ⟨e, he⟩ : ∃ e, e = entErr n i (x1, x2) p := ⟨_, rfl⟩
  rw [← he]
  unfold entErr at he
  simp only at he
  have HE := Lib.hid he
  have HKA := Lib.hid ((Keeps.refl (fun _ => False) w).alloc (.cells #[.int .i64 x1, .int .i64 x2] 87))
  clear hL hn hp hcp he h0
  have hni : (i : Int) < (n : Int) := by omega
  go_enter Tryz.func82, Tryz.ntmps82
  obtain ⟨B, hB⟩ : ∃ B, B = decide (-2147483647 ≤ x1 ∧ x1 ≤ 2147483647) := ⟨_, rfl⟩
  have HN := Lib.hid (fun w => by have := num_ x1 w; rw [← hB] at this; exact this)
  have HB := Lib.hid hB
  clear hB
  cases B with
  | false =>
    go_wp2_with (
      refine (HN.out _).mono ?_
      rintro e w' ⟨rfl, hw⟩
      rw [hw]
      clear hw)
    go_ret
    refine ⟨?_, HKA.out⟩
    have h1 := HB.out
    rw [HE.out, if_pos (.inl (by simpa using h1.symm))]
    rfl
  | true =>
    have hnum : -2147483647 ≤ x1 ∧ x1 ≤ 2147483647 := by simpa using HB.out.symm
    have HNU := Lib.hid hnum
    clear hnum
    by_cases c1 : x2 < 0
    · have d1 : decide (x2 < 0) = true := by simpa using c1
      go_wp2_with (
        refine (HN.out _).mono ?_
        rintro e w' ⟨rfl, hw⟩
        rw [hw]
        clear hw)
      go_ret
      refine ⟨?_, HKA.out⟩
      rw [HE.out, if_pos (.inr (.inl c1))]
      rfl
    · have d1 : decide (x2 < 0) = false := by simpa using c1
      by_cases c2 : 20 < x2
      · have d2 : decide (20 < x2) = true := by simpa using c2
        go_wp2_with (
          refine (HN.out _).mono ?_
          rintro e w' ⟨rfl, hw⟩
          rw [hw]
          clear hw)
        go_ret
        refine ⟨?_, HKA.out⟩
        rw [HE.out, if_pos (.inr (.inr c2))]
        rfl
      · have d2 : decide (20 < x2) = false := by simpa using c2
        have HE2 : Hid (e = if x2 = 0 ∧ 1 < n then 13 else if 0 < i ∧ x1 ≤ p then 21 else 0) := by
          show _ = _
          rw [HE.out, if_neg]
          have := HNU.out
          omega
        by_cases c3 : x2 = 0 ∧ 1 < n
        · obtain ⟨rfl, c4⟩ := c3
          have d4 : decide ((1 : Int) < (n : Int)) = true := by simp; omega
          go_wp2_with (
            refine (HN.out _).mono ?_
            rintro e w' ⟨rfl, hw⟩
            rw [hw]
            clear hw)
          go_ret
          refine ⟨?_, HKA.out⟩
          rw [HE2.out, if_pos ⟨by trivial, c4⟩]
          rfl
        · have HE3 : Hid (e = if 0 < i ∧ x1 ≤ p then 21 else 0) := by
            show _ = _
            rw [HE2.out, if_neg c3]
          go_upto_region 3 with (
            refine (HN.out _).mono ?_
            rintro e w' ⟨rfl, hw⟩
            rw [hw]
            clear hw)
          go_cut [22] from 23 to 30 (fun bv wx => bv = .bool false ∧ wx = w.alloc (.cells #[.int .i64 x1, .int .i64 x2] 87))
          case first =>
            by_cases c4 : x2 = 0
            · subst c4
              have d4 : decide ((1 : Int) < (n : Int)) = false := by simp; omega
              go_wp2
              go_meet
              case rel => exact ⟨rfl, rfl⟩
            · have d4 : (x2 == 0) = false := by simpa using c4
              go_wp2
              go_meet
              case rel => exact ⟨rfl, rfl⟩
          case rest =>
            obtain ⟨rfl, rfl⟩ := hcut
            by_cases c5 : 0 < i
            · obtain ⟨k, rfl⟩ : ∃ k, i = k + 1 := ⟨i - 1, by omega⟩
              rw [Nat.add_sub_cancel] at hc1
              have d5 : decide ((0 : Int) < (k : Int) + 1) = true := by rw [decide_eq_true_iff]; omega
              have hsub : (k : Int) + 1 - 1 = (k : Int) := by omega
              have hwk : IntKind.i64.wrap (k : Int) = (k : Int) := by rw [IntKind.wrap_i64]; omega
              have hkn : (k : Int) < (n : Int) := by omega
              by_cases c6 : x1 ≤ p
              · have d6 : decide (x1 ≤ p) = true := by simpa using c6
                go_wp2_with fail
                go_big_region
                all_goals go_wp2
                all_goals go_ret
                refine ⟨?_, HKA.out.drewN 1⟩
                rw [HE3.out, if_pos ⟨c5, c6⟩]
                rfl
              · have d6 : decide (x1 ≤ p) = false := by simpa using c6
                go_wp2_with fail
                go_big_region
                all_goals go_wp2
                all_goals go_ret
                refine ⟨?_, HKA.out.drewN 1⟩
                rw [HE3.out, if_neg (fun h => by have := h.2; omega)]
                rfl
            · obtain rfl : i = 0 := by omega
              have d5 : decide ((0 : Int) < ((0 : Nat) : Int)) = false := by simp
              go_wp2_with fail
              go_big_region
              all_goals go_wp2
              all_goals go_ret
              refine ⟨?_, HKA.out.drewN 1⟩
              rw [HE3.out, if_neg (fun h => c5 h.1)]
              rfl
end Go.Proofs.YtgaofnmgdefdcaaGreatDoor.Hn

namespace Go.Proofs.YtgaofnmgdefdcaaGreatDoor.Hk
open Go.RowKit Go.Shelf Go.Sort Go.Proofs.YtgaofnmgdefdcaaGreatDoor.Gen Go.Proofs.YtgaofnmgdefdcaaGreatDoor.Mp Go.Proofs.YtgaofnmgdefdcaaGreatDoor.Hr Go.Proofs.YtgaofnmgdefdcaaGreatDoor.Hp Go.Proofs.YtgaofnmgdefdcaaGreatDoor.Hg Go.Proofs.YtgaofnmgdefdcaaGreatDoor.So Go.Proofs.YtgaofnmgdefdcaaGreatDoor.Hs Go.Proofs.YtgaofnmgdefdcaaGreatDoor.Hf Go.Proofs.YtgaofnmgdefdcaaGreatDoor.Hz Go.Proofs.YtgaofnmgdefdcaaGreatDoor.St Go.Proofs.YtgaofnmgdefdcaaGreatDoor.Ln Go.Proofs.YtgaofnmgdefdcaaGreatDoor.Hw Go.Proofs.YtgaofnmgdefdcaaGreatDoor.Ss Go.Proofs.YtgaofnmgdefdcaaGreatDoor.Hn

/-- A word of so many bits, in memory; as a key. -/
def wv (b z : Nat) : Value := .agg #[.int .u32 (b : Int), .int .i64 (z : Int)]
def wk (b z : Nat) : Lit := .string (keyBytes [.int .u32 (b : Int), .int .i64 (z : Int)])
theorem laidOut : laidOutB Tryz.prog = true := by kernel_rfl
theorem word_keyed : Go.Maps.Keyed Tryz.prog 129 := Go.Maps.Keyed.of_law (deep_law_laid laidOut (m := 2) (by omega) (of_decide_eq_true (by kernel_rfl)) (by kernel_rfl) (by rw [Tryz.underlying129]))
theorem word_key {b z : Nat} (hb : b < 4294967296) (hz : z < 9223372036854775808) : keyOf Tryz.prog 129 (wv b z) = some (wk b z) := by
  have h1 : (Lit.int .u32 (b : Int)).wf = true := by
    have hm : IntKind.u32.min = 0 ∧ IntKind.u32.max = 4294967295 := by decide
    simp [Lit.wf, hm.1, hm.2]
    omega
  have h2 : (Lit.int .i64 (z : Int)).wf = true := by
    have hm : IntKind.i64.min = -9223372036854775808 ∧ IntKind.i64.max = 9223372036854775807 := by decide
    simp [Lit.wf, hm.1, hm.2]
    omega
  have hk : Tryz.prog.keyType 129 = true := by kernel_rfl
  have hc : Tryz.prog.cellsOf 129 = 2 := by kernel_rfl
  have hc1 : Tryz.prog.cellsOf 88 = 1 := by kernel_rfl
  have hc2 : Tryz.prog.cellsOf 3 = 1 := by kernel_rfl
  have hn : ∃ k, Tryz.prog.types.size + 1 = k + 2 := ⟨Tryz.prog.types.size - 1, by have : (1 : Nat) ≤ Tryz.prog.types.size := of_decide_eq_true (by kernel_rfl); omega⟩
  obtain ⟨k, hn⟩ := hn
  unfold keyOf
  rw [hn]
  simp [Tryz.underlying129, Tryz.underlying88, Tryz.underlying3, hk, hc, hc1, hc2, wv, wk, Value.formed, Program.keyLits, Value.cells, h1, h2]
theorem wk_inj {b z b' z' : Nat} (hb : b < 4294967296) (hz : z < 9223372036854775808) (hb' : b' < 4294967296) (hz' : z' < 9223372036854775808) (h : wk b z = wk b' z') : b = b' ∧ z = z' := by
  have h1 := word_keyed.inj (word_key hb hz) (by rw [h]; exact word_key hb' hz')
  unfold wv at h1
  injection h1 with h1
  simp at h1
  omega
end Go.Proofs.YtgaofnmgdefdcaaGreatDoor.Hk
