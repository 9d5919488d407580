/- The statements' own ways by small numbers (Small.Ints): the kind that holds entries. -/
import Derived.Test.YtgaofnmgdefdcaaGreatDoorJDsSmDsSmI
import Derived.Test.YtgaofnmgdefdcaaGreatDoorJFrqScDsTk
import Derived.Test.YtgaofnmgdefdcaaGreatDoorDsTkI
import Derived.Deep.CutRange
import Derived.Deep.CutBlock
import Derived.Outline
namespace Go.Proofs.YtgaofnmgdefdcaaGreatDoor.Ds
open Go.RowKit Go.Proofs.YtgaofnmgdefdcaaGreatDoor.Gen Go.Proofs.YtgaofnmgdefdcaaGreatDoor.Wr Go.Proofs.YtgaofnmgdefdcaaGreatDoor.It Go.Proofs.YtgaofnmgdefdcaaGreatDoor.Ir Go.Proofs.YtgaofnmgdefdcaaGreatDoor.Ib Go.Proofs.YtgaofnmgdefdcaaGreatDoor.Tw Go.Proofs.YtgaofnmgdefdcaaGreatDoor.Hr Go.Proofs.YtgaofnmgdefdcaaGreatDoor.Hn Go.Proofs.YtgaofnmgdefdcaaGreatDoor.Hk Go.Proofs.YtgaofnmgdefdcaaGreatDoor.Ln

theorem run_mini {P : Program} (ts : Array TypeId) (t : TypeId) (a b m : Int) (h : min a b = m) (w : World) : (Builtin.min_ ts t #[.int .i64 a, .int .i64 b]).run P w = .ok (.int .i64 m) w := by
  subst h
  simp [Builtin.min_, Builtin.min2]
  split <;> congr 2 <;> omega
theorem run_mx {P : Program} (ts : Array TypeId) (t : TypeId) (a b m : Int) (h : max a b = m) (w : World) : (Builtin.max_ ts t #[.int .i64 a, .int .i64 b]).run P w = .ok (.int .i64 m) w := by
  subst h
  simp [Builtin.max_, Builtin.max2]
  split <;> congr 2 <;> omega
theorem ent_info : (Tryz.prog.info? 87).map (fun i => (i.zero, i.size, i.bytes)) = some (some (.agg #[.int .i64 0, .int .i64 0]), 2, 16) := by kernel_rfl
theorem two_cells (w : World) (x y : Value) (t : TypeId) : ∀ (j : Nat) (u : Value), [x, y][j]? = some u → (w.alloc (.cells #[x, y] t)).cell? ((⟨w.heap.size, 0, none⟩ : Addr).add j) = some u := by
  intro j u hu
  rw [add_none, (Blk.new w t #[x, y]).cell]
  simpa using hu
theorem up2_fin : ∀ (m : Fin 21) (z : Fin 6), z.val ≤ up2 m.val → (2 ^ z.val < m.val ↔ z.val < up2 m.val) := by decide +kernel
/-- While entries come: the answer's variable, the way, the argument. -/
structure SmE (s : Sm) (A0 : Option Addr) (c0 N : Nat) (ev : Bool) (j : Nat) (A : Option Addr) (c : Nat) (w wr : World) : Prop where
  arg : Blk wr w.heap.size 37 (s.v A0 c0)
  res : Blk wr (w.heap.size + 1) 43 #[.int .u8 0, .int .i64 0, .slice none 0 0, .int .i64 0, .int .i64 0]
  row : Blk wr (w.heap.size + 1 + 1) 43 #[.int .u8 3, .int .i64 0, .slice A j c, .int .i64 0, .int .i64 0]
  own : wr.ownsRow (w.heap.size + 3) 87 2 (.slice A j c) j (gvs (smL N ev s.le j))
  keeps : Keeps (fun _ => False) w wr

set_option maxHeartbeats 8000000 in
set_option maxRecDepth 100000 in
theorem ints_2 (s : Sm) (A : Option Addr) (c : Nat) (w : World) (h : s.ok) (h3 : s.K % 3 = 2) (N M : Nat) (hN : min s.n 20 = N) (hM : max N 1 = M) : Calls Tryz.prog 13 #[.agg (s.v A c)] w (MadeI s.I w) := by
  obtain ⟨K, bi, B, le, n, S, stop⟩ := s
  have hK := h.K
  have hB := h.bi
  have hl := h.le
  simp only at hK hB h3 hl hN
  have HI : Hid (Sm.I ⟨K, bi, B, le, n, S, stop⟩ = ⟨3, 0, smL N (decide (bi % 2 = 0)) le M, 0, 0⟩) := by show _ = _; simp [Sm.I, h3, Sm.ent, hN, hM]
  have hm : K.tmod 3 = 2 := by rw [Int.tmod_eq_emod_of_nonneg hK.1]; exact h3
  have hb : bi.tmod 2 = bi % 2 := Int.tmod_eq_emod_of_nonneg hB.1
  have hmin := fun (ts : Array TypeId) (t : TypeId) (w : World) => run_mini (P := Tryz.prog) ts t (n : Int) 20 (N : Int) (by omega) w
  have hmax := fun (ts : Array TypeId) (t : TypeId) (w : World) => run_mx (P := Tryz.prog) ts t (N : Int) 1 (M : Int) (by omega) w
  obtain ⟨i0, hi0, hz0, hz1, hz2⟩ := info_parts ent_info
  clear h
  unfold Sm.v
  simp only
  go_enter Tryz.func13, Tryz.ntmps13
  go_wp2_with fail
  generalize hW : ((w.alloc (.cells #[.int .u8 K, .int .u8 bi, .int .u16 B, .int .i16 le, .slice A n c, .int .u8 S, .bool stop] 37)).alloc (.cells #[.int .u8 0, .int .i64 0, .slice none 0 0, .int .i64 0, .int .i64 0] 43)).alloc (.cells #[.int .u8 3, .int .i64 0, .slice none 0 0, .int .i64 0, .int .i64 0] 43) = W
  have HS : Hid (SmE ⟨K, bi, B, le, n, S, stop⟩ A c N (decide (bi % 2 = 0)) 0 none 0 w W) := by
    subst hW
    have k1 := (Keeps.refl (fun _ => False) (w.alloc (.cells #[.int .u8 K, .int .u8 bi, .int .u16 B, .int .i16 le, .slice A n c, .int .u8 S, .bool stop] 37))).alloc (.cells #[.int .u8 0, .int .i64 0, .slice none 0 0, .int .i64 0, .int .i64 0] 43)
    have k2 := (Keeps.refl (fun _ => False) ((w.alloc (.cells #[.int .u8 K, .int .u8 bi, .int .u16 B, .int .i16 le, .slice A n c, .int .u8 S, .bool stop] 37)).alloc (.cells #[.int .u8 0, .int .i64 0, .slice none 0 0, .int .i64 0, .int .i64 0] 43))).alloc (.cells #[.int .u8 3, .int .i64 0, .slice none 0 0, .int .i64 0, .int .i64 0] 43)
    have e1 : (w.alloc (.cells #[.int .u8 K, .int .u8 bi, .int .u16 B, .int .i16 le, .slice A n c, .int .u8 S, .bool stop] 37)).heap.size = w.heap.size + 1 := by simp
    have e2 : ((w.alloc (.cells #[.int .u8 K, .int .u8 bi, .int .u16 B, .int .i16 le, .slice A n c, .int .u8 S, .bool stop] 37)).alloc (.cells #[.int .u8 0, .int .i64 0, .slice none 0 0, .int .i64 0, .int .i64 0] 43)).heap.size = w.heap.size + 2 := by simp
    have b1 := Blk.new (w.alloc (.cells #[.int .u8 K, .int .u8 bi, .int .u16 B, .int .i16 le, .slice A n c, .int .u8 S, .bool stop] 37)) 43 #[.int .u8 0, .int .i64 0, .slice none 0 0, .int .i64 0, .int .i64 0]
    have b2 := Blk.new ((w.alloc (.cells #[.int .u8 K, .int .u8 bi, .int .u16 B, .int .i16 le, .slice A n c, .int .u8 S, .bool stop] 37)).alloc (.cells #[.int .u8 0, .int .i64 0, .slice none 0 0, .int .i64 0, .int .i64 0] 43)) 43 #[.int .u8 3, .int .i64 0, .slice none 0 0, .int .i64 0, .int .i64 0]
    rw [e1] at b1
    rw [e2] at b2
    exact ⟨(Blk.new w 37 _).keeps (k1.trans k2) id, b1.keeps k2 id, b2, World.ownsRow_nil _ _ _ _, ((Keeps.refl _ _).alloc _).trans (k1.trans k2)⟩
  clear hW
  have hM20 : M ≤ 20 := by omega
  have hu5 : up2 M ≤ 5 := by unfold up2; (repeat' split) <;> omega
  go_loopw [5, 6, 35] (fun _ _ iv wr => ∃ (j : Nat) (A' : Option Addr) (c' : Nat), iv = .int .i64 (j : Int) ∧ j ≤ M ∧ Hid (SmE ⟨K, bi, B, le, n, S, stop⟩ A c N (decide (bi % 2 = 0)) j A' c' w wr)) (fun _ _ iv _ => M - (intOf iv).toNat)
  case atStart => exact ⟨0, none, 0, rfl, by omega, HS⟩
  case round =>
    clear HS
    obtain ⟨j, A', c', rfl, hj, HH⟩ := hrel
    by_cases hlt : j < M
    · have hlt' : (j : Int) < (M : Int) := by omega
      have hbi : wr.cell? ⟨w.heap.size, 1, none⟩ = some (.int .u8 bi) := HH.out.arg.cell 1
      obtain ⟨sz, hsz⟩ : ∃ sz, smZ N (decide (bi % 2 = 0)) j = sz := ⟨_, rfl⟩
      have HSZ := Lib.hid hsz
      unfold smZ at hsz
      rw [hM] at hsz
      have hsz1 : 1 < N → bi % 2 = 0 → (min (j + 1) (N - 1) = sz) := fun h1 h2 => by rw [if_pos ⟨h1, by simpa using h2⟩] at hsz; exact hsz
      have hsz2 : ¬ (1 < N ∧ bi % 2 = 0) → up2 M = sz := fun h1 => by rw [if_neg (by simpa using h1)] at hsz; exact hsz
      clear hsz
      go_upto_block 3 with fail
      go_cut [6] from 38 to 45 (fun sl wx => sl = .int .i64 ((up2 M : Nat) : Int) ∧ wx = wr)
      case first =>
        go_wp2_with fail
        go_loop [6] (fun zv => ∃ z : Nat, zv = .int .i64 (z : Int) ∧ z ≤ up2 M) (fun zv => up2 M - (intOf zv).toNat)
        case atStart => exact ⟨0, rfl, by omega⟩
        case round =>
          obtain ⟨z, rfl, hz⟩ := hrel
          have hfin := up2_fin ⟨M, by omega⟩ ⟨z, by omega⟩ hz
          simp only at hfin
          have hzc : z = 0 ∨ z = 1 ∨ z = 2 ∨ z = 3 ∨ z = 4 ∨ z = 5 := by omega
          by_cases hb : 2 ^ z < M
          · have hb2 := hfin.1 hb
            have hb' : (2 : Int) ^ z < (M : Int) := by exact_mod_cast hb
            clear hfin hsz1 hsz2
            rcases hzc with rfl | rfl | rfl | rfl | rfl | rfl
            · simp only [Int.reducePow, Int.pow_zero] at hb'
              go_wp2
              exact ⟨⟨1, rfl, by omega⟩, by simp [intOf]; omega⟩
            · simp only [Int.reducePow, Int.pow_zero] at hb'
              go_wp2
              exact ⟨⟨2, rfl, by omega⟩, by simp [intOf]; omega⟩
            · simp only [Int.reducePow, Int.pow_zero] at hb'
              go_wp2
              exact ⟨⟨3, rfl, by omega⟩, by simp [intOf]; omega⟩
            · simp only [Int.reducePow, Int.pow_zero] at hb'
              go_wp2
              exact ⟨⟨4, rfl, by omega⟩, by simp [intOf]; omega⟩
            · simp only [Int.reducePow, Int.pow_zero] at hb'
              go_wp2
              exact ⟨⟨5, rfl, by omega⟩, by simp [intOf]; omega⟩
            · omega
          · have hzz : z = up2 M := by have := mt hfin.2 hb; omega
            have hb' : ¬ (2 : Int) ^ z < (M : Int) := by exact_mod_cast hb
            subst hzz
            clear hfin hb hsz1 hsz2
            generalize up2 M = z at *
            rcases hzc with rfl | rfl | rfl | rfl | rfl | rfl
            all_goals simp only [Int.reducePow, Int.pow_zero] at hb'
            all_goals go_wp2_with fail
            all_goals go_meet
            all_goals exact ⟨rfl, rfl⟩
      case rest =>
        obtain ⟨rfl, rfl⟩ := hcut
        have hsn : gvs (smL N (decide (bi % 2 = 0)) le (j + 1)) = gvs (smL N (decide (bi % 2 = 0)) le j) ++ [.int .i64 (le + 3 * (j : Int)), .int .i64 (sz : Int)] := by
          rw [smL_snoc, HSZ.out]
          simp [gvs]
        have HSN := Lib.hid hsn
        have hle : wc.cell? ⟨w.heap.size, 3, none⟩ = some (.int .i16 le) := HH.out.arg.cell 3
        have hrw : wc.cell? ⟨w.heap.size + 1 + 1, 2, none⟩ = some (.slice A' j c') := HH.out.row.cell 2
        have h3 : (1 < N ∧ bi % 2 = 0) ∨ (1 < N ∧ ¬ bi % 2 = 0) ∨ ¬ 1 < N := by omega
        clear hsn
        rcases h3 with ⟨g1, g2⟩ | ⟨g1, g2⟩ | g1
        · have hN1' : (1 : Int) < (N : Int) := by omega
          have hq : (bi % 2 == 0) = true := by simpa using g2
          have hmn : ∀ (ts : Array TypeId) (t : TypeId) (w : World), (Builtin.min_ ts t #[.int .i64 ((j : Int) + 1), .int .i64 ((N : Int) - 1)]).run Tryz.prog w = .ok (.int .i64 (sz : Int)) w := fun ts t w => run_mini ts t _ _ _ (by have := hsz1 g1 g2; omega) w
          clear hsz1 hsz2 g1 g2
          go_upto_region 16 with fail
          have HNW := Lib.hid (two_cells wc (.int .i64 (le + 3 * (j : Int))) (.int .i64 (sz : Int)) 87)
          have kz : Keeps (fun _ => False) wc (wc.alloc (.cells #[.int .i64 (le + 3 * (j : Int)), .int .i64 (sz : Int)] 87)) := (Keeps.refl _ _).alloc _
          have HOA := Lib.hid (own_keeps HH.out.own kz (fun _ _ => id))
          have HKA : Hid (w.heap.size + 3 ≤ (wc.alloc (.cells #[.int .i64 (le + 3 * (j : Int)), .int .i64 (sz : Int)] 87)).heap.size) := Lib.hid (by have := HH.out.row.lt; have := kz.size; omega)
          have HKC := Lib.hid (HH.out.keeps.trans kz)
          have HRA := Lib.hid (HH.out.arg.keeps kz id)
          have HRR := Lib.hid (HH.out.res.keeps kz id)
          have HRW := Lib.hid (HH.out.row.keeps kz id)
          clear kz
          go_wp2_with (
            at_builtin
            refine wpList_append_own_at _ rfl (.tmp 59) (.tmp 68) _ rfl (w.heap.size + 3) 87 i0 _ 2 16 Tryz.underlying41 hi0 hz0 hz1 hz2 rfl (by omega) (.slice A' j c') j (gvs (smL N (decide (bi % 2 = 0)) le j)) rfl HOA.out ⟨wc.heap.size, 0, none⟩ 1 1 [.int .i64 (le + 3 * (j : Int)), .int .i64 (sz : Int)] rfl rfl HNW.out (by simp [Value.oneCell']) (by simp only [maxLen]; omega) (by omega) HKA.out ?_
            intro v1 w5 hown1 hg1 hnil1 hat1
            obtain ⟨A4, c4, rfl, _⟩ := own_form hown1
            have k1 : Keeps (fun i => Value.ownBlock (.slice A' j c') = some i) _ w5 := Keeps.grown (Keeps.refl _ _) hg1 (fun i hi => .inl hi)
            have hb0 := HRA.out.keeps k1 (own_ne HOA.out HRA.out (by decide))
            have hb1 := HRR.out.keeps k1 (own_ne HOA.out HRR.out (by decide))
            have hb2 := HRW.out.keeps k1 (own_ne HOA.out HRW.out (by decide))
            have HG5 : Hid (SmE ⟨K, bi, B, le, n, S, stop⟩ A c N (decide (bi % 2 = 0)) (j + 1) A4 c4 w (w5.setCell ⟨w.heap.size + 1 + 1, 2, none⟩ (.slice A4 (j + 1) c4))) := by
              rw [← HSN.out] at hown1
              refine Lib.hid ⟨hb0.setFar (by show w.heap.size ≠ w.heap.size + 1 + 1; omega) _, hb1.setFar (by show w.heap.size + 1 ≠ w.heap.size + 1 + 1; omega) _, by simpa using hb2.setCell 2 (.slice A4 (j + 1) c4), ?_, ?_⟩
              · exact own_keeps hown1 ((Keeps.refl (· = w.heap.size + 1 + 1) _).setOwn 2 _) (fun b hb e => own_ne hown1 hb2 (by decide) (by rw [hb, e]))
              · exact (HKC.out.grown hg1 (fun i hi => .inr (by have := (HOA.out.lt i hi).1; omega))).setCell (.inr (by show w.heap.size ≤ w.heap.size + 1 + 1; omega)) _
            have hr2 := hb2.cell 2
            have hf2 := hb2.frozen 2
            simp only [List.getElem?_toArray, List.getElem?_cons_zero, List.getElem?_cons_succ] at hr2
            clear hown1 hg1 hnil1 hat1 k1 hb0 hb1 hb2)
          exact ⟨⟨j + 1, A4, c4, by go_num, by omega, HG5⟩, by simp [intOf]; omega⟩
        · have hN1' : (1 : Int) < (N : Int) := by omega
          have hq : (bi % 2 == 0) = false := by simpa using g2
          rw [hsz2 (by simp [g2])]
          clear hsz1 hsz2 g1 g2
          go_upto_region 16 with fail
          have HNW := Lib.hid (two_cells wc (.int .i64 (le + 3 * (j : Int))) (.int .i64 (sz : Int)) 87)
          have kz : Keeps (fun _ => False) wc (wc.alloc (.cells #[.int .i64 (le + 3 * (j : Int)), .int .i64 (sz : Int)] 87)) := (Keeps.refl _ _).alloc _
          have HOA := Lib.hid (own_keeps HH.out.own kz (fun _ _ => id))
          have HKA : Hid (w.heap.size + 3 ≤ (wc.alloc (.cells #[.int .i64 (le + 3 * (j : Int)), .int .i64 (sz : Int)] 87)).heap.size) := Lib.hid (by have := HH.out.row.lt; have := kz.size; omega)
          have HKC := Lib.hid (HH.out.keeps.trans kz)
          have HRA := Lib.hid (HH.out.arg.keeps kz id)
          have HRR := Lib.hid (HH.out.res.keeps kz id)
          have HRW := Lib.hid (HH.out.row.keeps kz id)
          clear kz
          go_wp2_with (
            at_builtin
            refine wpList_append_own_at _ rfl (.tmp 59) (.tmp 68) _ rfl (w.heap.size + 3) 87 i0 _ 2 16 Tryz.underlying41 hi0 hz0 hz1 hz2 rfl (by omega) (.slice A' j c') j (gvs (smL N (decide (bi % 2 = 0)) le j)) rfl HOA.out ⟨wc.heap.size, 0, none⟩ 1 1 [.int .i64 (le + 3 * (j : Int)), .int .i64 (sz : Int)] rfl rfl HNW.out (by simp [Value.oneCell']) (by simp only [maxLen]; omega) (by omega) HKA.out ?_
            intro v1 w5 hown1 hg1 hnil1 hat1
            obtain ⟨A4, c4, rfl, _⟩ := own_form hown1
            have k1 : Keeps (fun i => Value.ownBlock (.slice A' j c') = some i) _ w5 := Keeps.grown (Keeps.refl _ _) hg1 (fun i hi => .inl hi)
            have hb0 := HRA.out.keeps k1 (own_ne HOA.out HRA.out (by decide))
            have hb1 := HRR.out.keeps k1 (own_ne HOA.out HRR.out (by decide))
            have hb2 := HRW.out.keeps k1 (own_ne HOA.out HRW.out (by decide))
            have HG5 : Hid (SmE ⟨K, bi, B, le, n, S, stop⟩ A c N (decide (bi % 2 = 0)) (j + 1) A4 c4 w (w5.setCell ⟨w.heap.size + 1 + 1, 2, none⟩ (.slice A4 (j + 1) c4))) := by
              rw [← HSN.out] at hown1
              refine Lib.hid ⟨hb0.setFar (by show w.heap.size ≠ w.heap.size + 1 + 1; omega) _, hb1.setFar (by show w.heap.size + 1 ≠ w.heap.size + 1 + 1; omega) _, by simpa using hb2.setCell 2 (.slice A4 (j + 1) c4), ?_, ?_⟩
              · exact own_keeps hown1 ((Keeps.refl (· = w.heap.size + 1 + 1) _).setOwn 2 _) (fun b hb e => own_ne hown1 hb2 (by decide) (by rw [hb, e]))
              · exact (HKC.out.grown hg1 (fun i hi => .inr (by have := (HOA.out.lt i hi).1; omega))).setCell (.inr (by show w.heap.size ≤ w.heap.size + 1 + 1; omega)) _
            have hr2 := hb2.cell 2
            have hf2 := hb2.frozen 2
            simp only [List.getElem?_toArray, List.getElem?_cons_zero, List.getElem?_cons_succ] at hr2
            clear hown1 hg1 hnil1 hat1 k1 hb0 hb1 hb2)
          exact ⟨⟨j + 1, A4, c4, by go_num, by omega, HG5⟩, by simp [intOf]; omega⟩
        · have hN1' : ¬ (1 : Int) < (N : Int) := by omega
          rw [hsz2 (by simp [g1])]
          clear hsz1 hsz2 g1
          go_upto_region 16 with fail
          have HNW := Lib.hid (two_cells wc (.int .i64 (le + 3 * (j : Int))) (.int .i64 (sz : Int)) 87)
          have kz : Keeps (fun _ => False) wc (wc.alloc (.cells #[.int .i64 (le + 3 * (j : Int)), .int .i64 (sz : Int)] 87)) := (Keeps.refl _ _).alloc _
          have HOA := Lib.hid (own_keeps HH.out.own kz (fun _ _ => id))
          have HKA : Hid (w.heap.size + 3 ≤ (wc.alloc (.cells #[.int .i64 (le + 3 * (j : Int)), .int .i64 (sz : Int)] 87)).heap.size) := Lib.hid (by have := HH.out.row.lt; have := kz.size; omega)
          have HKC := Lib.hid (HH.out.keeps.trans kz)
          have HRA := Lib.hid (HH.out.arg.keeps kz id)
          have HRR := Lib.hid (HH.out.res.keeps kz id)
          have HRW := Lib.hid (HH.out.row.keeps kz id)
          clear kz
          go_wp2_with (
            at_builtin
            refine wpList_append_own_at _ rfl (.tmp 59) (.tmp 68) _ rfl (w.heap.size + 3) 87 i0 _ 2 16 Tryz.underlying41 hi0 hz0 hz1 hz2 rfl (by omega) (.slice A' j c') j (gvs (smL N (decide (bi % 2 = 0)) le j)) rfl HOA.out ⟨wc.heap.size, 0, none⟩ 1 1 [.int .i64 (le + 3 * (j : Int)), .int .i64 (sz : Int)] rfl rfl HNW.out (by simp [Value.oneCell']) (by simp only [maxLen]; omega) (by omega) HKA.out ?_
            intro v1 w5 hown1 hg1 hnil1 hat1
            obtain ⟨A4, c4, rfl, _⟩ := own_form hown1
            have k1 : Keeps (fun i => Value.ownBlock (.slice A' j c') = some i) _ w5 := Keeps.grown (Keeps.refl _ _) hg1 (fun i hi => .inl hi)
            have hb0 := HRA.out.keeps k1 (own_ne HOA.out HRA.out (by decide))
            have hb1 := HRR.out.keeps k1 (own_ne HOA.out HRR.out (by decide))
            have hb2 := HRW.out.keeps k1 (own_ne HOA.out HRW.out (by decide))
            have HG5 : Hid (SmE ⟨K, bi, B, le, n, S, stop⟩ A c N (decide (bi % 2 = 0)) (j + 1) A4 c4 w (w5.setCell ⟨w.heap.size + 1 + 1, 2, none⟩ (.slice A4 (j + 1) c4))) := by
              rw [← HSN.out] at hown1
              refine Lib.hid ⟨hb0.setFar (by show w.heap.size ≠ w.heap.size + 1 + 1; omega) _, hb1.setFar (by show w.heap.size + 1 ≠ w.heap.size + 1 + 1; omega) _, by simpa using hb2.setCell 2 (.slice A4 (j + 1) c4), ?_, ?_⟩
              · exact own_keeps hown1 ((Keeps.refl (· = w.heap.size + 1 + 1) _).setOwn 2 _) (fun b hb e => own_ne hown1 hb2 (by decide) (by rw [hb, e]))
              · exact (HKC.out.grown hg1 (fun i hi => .inr (by have := (HOA.out.lt i hi).1; omega))).setCell (.inr (by show w.heap.size ≤ w.heap.size + 1 + 1; omega)) _
            have hr2 := hb2.cell 2
            have hf2 := hb2.frozen 2
            simp only [List.getElem?_toArray, List.getElem?_cons_zero, List.getElem?_cons_succ] at hr2
            clear hown1 hg1 hnil1 hat1 k1 hb0 hb1 hb2)
          exact ⟨⟨j + 1, A4, c4, by go_num, by omega, HG5⟩, by simp [intOf]; omega⟩
    · obtain rfl : j = M := by omega
      have hge : ¬ ((j : Int) < (j : Int)) := by omega
      have c0 := HH.out.row.cell 0
      have c1 := HH.out.row.cell 1
      have c2 := HH.out.row.cell 2
      have c3 := HH.out.row.cell 3
      have c4 := HH.out.row.cell 4
      simp only [List.getElem?_toArray, List.getElem?_cons_zero, List.getElem?_cons_succ] at c0 c1 c2 c3 c4
      have e0 := HH.out.res.cell 0
      have e1 := HH.out.res.cell 1
      have e2 := HH.out.res.cell 2
      have e3 := HH.out.res.cell 3
      have e4 := HH.out.res.cell 4
      simp only [List.getElem?_toArray, List.getElem?_cons_zero, List.getElem?_cons_succ] at e0 e1 e2 e3 e4
      have f0 := HH.out.res.frozen 0
      have f1 := HH.out.res.frozen 1
      have f2 := HH.out.res.frozen 2
      have f3 := HH.out.res.frozen 3
      have f4 := HH.out.res.frozen 4
      go_wp2_with fail
      have hc := HH.out.res.setCell 0 (.int .u8 3)
      have HB5 := Lib.hid (put5 HH.out.res (.int .u8 3) (.int .i64 0) (.slice A' j c') (.int .i64 0) (.int .i64 0))
      refine bodyPost_ret (results_cell_row rfl _ _ (w.heap.size + 1) 43 _ (0, 0) _ rfl HB5.out Tryz.underlying43 rfl (by kernel_rfl)) rfl ?_
      rw [HI.out]
      have k5 := keeps5 wr (w.heap.size + 1) (.int .u8 3) (.int .i64 0) (.slice A' j c') (.int .i64 0) (.int .i64 0)
      have hne := own_ne HH.out.own HH.out.res (by decide)
      refine ⟨A', j, c', rfl, ⟨(RowAt.of_own HH.out.own).keeps k5 (fun b o e hb => hne (by subst e; rw [← hb]; rfl)), smL_len _ _ _ _, by omega⟩, fun b o e => ?_, ?_⟩
      · subst e
        have := (HH.out.own.lt b rfl).1
        omega
      · exact ((((HH.out.keeps.setCell (p := ⟨w.heap.size + 1, 0, none⟩) (.inr (by show w.heap.size ≤ w.heap.size + 1; omega)) _).setCell (p := ⟨w.heap.size + 1, 1, none⟩) (.inr (by show w.heap.size ≤ w.heap.size + 1; omega)) _).setCell (p := ⟨w.heap.size + 1, 2, none⟩) (.inr (by show w.heap.size ≤ w.heap.size + 1; omega)) _).setCell (p := ⟨w.heap.size + 1, 3, none⟩) (.inr (by show w.heap.size ≤ w.heap.size + 1; omega)) _).setCell (p := ⟨w.heap.size + 1, 4, none⟩) (.inr (by show w.heap.size ≤ w.heap.size + 1; omega)) _

/-- Small's way for numbers, any. -/
theorem ints_ (s : Sm) (A : Option Addr) (c : Nat) (w : World) (h : s.ok) : Calls Tryz.prog 13 #[.agg (s.v A c)] w (MadeI s.I w) := by
  have h3 : s.K % 3 = 0 ∨ s.K % 3 = 1 ∨ s.K % 3 = 2 := by omega
  rcases h3 with h3 | h3 | h3
  · exact ints_0 s A c w h h3
  · exact ints_1 s A c w h h3
  · exact ints_2 s A c w h h3 _ _ rfl rfl
end Go.Proofs.YtgaofnmgdefdcaaGreatDoor.Ds
