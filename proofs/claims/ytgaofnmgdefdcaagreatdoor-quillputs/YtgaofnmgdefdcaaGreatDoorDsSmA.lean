/- The statements' own ways for bytes by small numbers (Small.Arrays). -/
import Derived.Test.YtgaofnmgdefdcaaGreatDoorDsSmE
import Derived.Test.YtgaofnmgdefdcaaGreatDoorDsTkA
import Derived.Deep.RegionHeld3
namespace Go.Proofs.YtgaofnmgdefdcaaGreatDoor.Ds
open Go.RowKit Go.Proofs.YtgaofnmgdefdcaaGreatDoor.Gen Go.Proofs.YtgaofnmgdefdcaaGreatDoor.Wr Go.Proofs.YtgaofnmgdefdcaaGreatDoor.It Go.Proofs.YtgaofnmgdefdcaaGreatDoor.Ir Go.Proofs.YtgaofnmgdefdcaaGreatDoor.Ib Go.Proofs.YtgaofnmgdefdcaaGreatDoor.Tw Go.Proofs.YtgaofnmgdefdcaaGreatDoor.Hr Go.Proofs.YtgaofnmgdefdcaaGreatDoor.Hn Go.Proofs.YtgaofnmgdefdcaaGreatDoor.Hk Go.Proofs.YtgaofnmgdefdcaaGreatDoor.Ln

/-- A way for bytes that a call has made. -/
def MadeA (a : E) (w : World) (r : Ending) (w' : World) : Prop :=
  ∃ A n c, r = .returned (.agg (av A n c a)) ∧ Ents w' A n a.d.L ∧ (∀ b o, A = some ⟨b, o, none⟩ → w.heap.size ≤ b) ∧ Keeps (fun _ => False) w w'

set_option maxHeartbeats 8000000 in
set_option maxRecDepth 100000 in
theorem arrays_ (s : Sm) (A : Option Addr) (c : Nat) (w : World) (h : s.ok) : Calls Tryz.prog 11 #[.agg (s.v A c)] w (MadeA s.A w) := by
  have HC := Lib.hid (fun W => ints_ s A c W h)
  obtain ⟨d, hd⟩ : ∃ d, s.I = d := ⟨_, rfl⟩
  rw [hd] at HC
  obtain ⟨K, bi, B, le, n, S, stop⟩ := s
  have hB := h.B
  have hS := h.S
  simp only at hB hS
  have HE : Hid (Sm.A ⟨K, bi, B, le, n, S, stop⟩ = if stop = true then ⟨D0, 5, 1 + B % 60000, S⟩ else ⟨d, 4, 1 + B % 60000, 0⟩) := by show _ = _; simp only [Sm.A, hd]
  have hb : B.tmod 60000 = B % 60000 := Int.tmod_eq_emod_of_nonneg hB.1
  have hr : 0 ≤ B % 60000 ∧ B % 60000 < 60000 := by omega
  clear h hd
  unfold Sm.v at HC
  unfold Sm.v
  simp only at HC ⊢
  unfold MadeI dv at HC
  cases stop with
  | true =>
    go_enter Tryz.func11, Tryz.ntmps11
    go_wp2
    refine bodyPost_ret (v := .agg (av none 0 0 ⟨D0, 5, 1 + B % 60000, S⟩)) (by simp [results, Tryz.results11, go_sem, av, D0]) rfl ?_
    rw [HE.out]
    exact ⟨none, 0, 0, rfl, ⟨.inl rfl, rfl, by omega⟩, by simp, ((Keeps.refl _ _).alloc _).alloc _⟩
  | false =>
    go_enter Tryz.func11, Tryz.ntmps11
    go_upto_region 3 with fail
    have HB1 : Hid (Blk ((w.alloc (.cells #[.int .u8 K, .int .u8 bi, .int .u16 B, .int .i16 le, .slice A n c, .int .u8 S, .bool false] 37)).alloc (.cells #[.int .u8 0, .int .i64 0, .slice none 0 0, .int .i64 0, .int .i64 0, .int .u8 0, .int .i64 0, .int .u8 0] 45)) w.heap.size 37 #[.int .u8 K, .int .u8 bi, .int .u16 B, .int .i16 le, .slice A n c, .int .u8 S, .bool false]) := Lib.hid ((Blk.new w 37 _).keeps ((Keeps.refl (fun _ => False) _).alloc _) id)
    have HB2 : Hid (Blk ((w.alloc (.cells #[.int .u8 K, .int .u8 bi, .int .u16 B, .int .i16 le, .slice A n c, .int .u8 S, .bool false] 37)).alloc (.cells #[.int .u8 0, .int .i64 0, .slice none 0 0, .int .i64 0, .int .i64 0, .int .u8 0, .int .i64 0, .int .u8 0] 45)) (w.heap.size + 1) 45 #[.int .u8 0, .int .i64 0, .slice none 0 0, .int .i64 0, .int .i64 0, .int .u8 0, .int .i64 0, .int .u8 0]) := by
      have := Blk.new (w.alloc (.cells #[.int .u8 K, .int .u8 bi, .int .u16 B, .int .i16 le, .slice A n c, .int .u8 S, .bool false] 37)) 45 #[.int .u8 0, .int .i64 0, .slice none 0 0, .int .i64 0, .int .i64 0, .int .u8 0, .int .i64 0, .int .u8 0]
      have e1 : (w.alloc (.cells #[.int .u8 K, .int .u8 bi, .int .u16 B, .int .i16 le, .slice A n c, .int .u8 S, .bool false] 37)).heap.size = w.heap.size + 1 := by simp
      rw [e1] at this
      exact this
    have HK : Hid (Keeps (fun _ => False) w ((w.alloc (.cells #[.int .u8 K, .int .u8 bi, .int .u16 B, .int .i16 le, .slice A n c, .int .u8 S, .bool false] 37)).alloc (.cells #[.int .u8 0, .int .i64 0, .slice none 0 0, .int .i64 0, .int .i64 0, .int .u8 0, .int .i64 0, .int .u8 0] 45))) := Lib.hid (((Keeps.refl _ _).alloc _).alloc _)
    generalize (w.alloc (.cells #[.int .u8 K, .int .u8 bi, .int .u16 B, .int .i16 le, .slice A n c, .int .u8 S, .bool false] 37)).alloc (.cells #[.int .u8 0, .int .i64 0, .slice none 0 0, .int .i64 0, .int .i64 0, .int .u8 0, .int .i64 0, .int .u8 0] 45) = W at HB1 HB2 HK ⊢
    have x0 := HB1.out.cell 0
    have x1 := HB1.out.cell 1
    have x2 := HB1.out.cell 2
    have x3 := HB1.out.cell 3
    have x4 := HB1.out.cell 4
    have x5 := HB1.out.cell 5
    have x6 := HB1.out.cell 6
    simp only [List.getElem?_toArray, List.getElem?_cons_zero, List.getElem?_cons_succ] at x0 x1 x2 x3 x4 x5 x6
    go_region_held3 (fun w' => w'.cell? ⟨w.heap.size, 0, none⟩ = some (.int .u8 K) ∧ w'.cell? ⟨w.heap.size, 1, none⟩ = some (.int .u8 bi) ∧ w'.cell? ⟨w.heap.size, 2, none⟩ = some (.int .u16 B) ∧ w'.cell? ⟨w.heap.size, 3, none⟩ = some (.int .i16 le) ∧ w'.cell? ⟨w.heap.size, 4, none⟩ = some (.slice A n c) ∧ w'.cell? ⟨w.heap.size, 5, none⟩ = some (.int .u8 S) ∧ w'.cell? ⟨w.heap.size, 6, none⟩ = some (.bool false)) (go_keep)
      ((first
        | (go_at_call 13
           refine (HC.out _).mono ?_
           rintro e w1 ⟨A1, n1, c1, rfl, hE1, hA1, hk1⟩
           have HE1 := Lib.hid hE1
           have HA1 := Lib.hid hA1
           have HK1 := Lib.hid (HK.out.trans hk1.of_drew)
           have HZ : Hid (w.heap.size + 1 < W.heap.size) := Lib.hid HB2.out.lt
           have HB3 := Lib.hid (HB2.out.keeps hk1.of_drew id)
           have d0 := (HB1.out.keeps hk1.of_drew id).cell 0
           have d1 := (HB1.out.keeps hk1.of_drew id).cell 1
           have d2 := (HB1.out.keeps hk1.of_drew id).cell 2
           have d3 := (HB1.out.keeps hk1.of_drew id).cell 3
           have d4 := (HB1.out.keeps hk1.of_drew id).cell 4
           have d5 := (HB1.out.keeps hk1.of_drew id).cell 5
           have d6 := (HB1.out.keeps hk1.of_drew id).cell 6
           simp only [List.getElem?_toArray, List.getElem?_cons_zero, List.getElem?_cons_succ] at d0 d1 d2 d3 d4 d5 d6
           have r0 := HB3.out.cell 0
           have r1 := HB3.out.cell 1
           have r2 := HB3.out.cell 2
           have r3 := HB3.out.cell 3
           have r4 := HB3.out.cell 4
           have r5 := HB3.out.cell 5
           have r6 := HB3.out.cell 6
           have r7 := HB3.out.cell 7
           simp only [List.getElem?_toArray, List.getElem?_cons_zero, List.getElem?_cons_succ] at r0 r1 r2 r3 r4 r5 r6 r7
           have f0 := HB3.out.frozen 0
           have f1 := HB3.out.frozen 1
           have f2 := HB3.out.frozen 2
           have f3 := HB3.out.frozen 3
           have f4 := HB3.out.frozen 4
           have f5 := HB3.out.frozen 5
           have f6 := HB3.out.frozen 6
           have f7 := HB3.out.frozen 7
           clear hE1 hA1 hk1 HB1 x0 x1 x2 x3 x4 x5 x6 HC)))
    rw [show IntKind.i64.wrap (B % 60000) = B % 60000 from IntWalk.i64_in _ (by omega), show IntKind.i64.wrap (1 + B % 60000) = 1 + B % 60000 from IntWalk.i64_in _ (by omega)]
    go_wp2_with fail
    refine bodyPost_ret (results_cell_row rfl _ _ (w.heap.size + 1) 45 _ (0, 0) _ rfl (put8 HB3.out _ _ _ _ _ _ _ _) Tryz.underlying45 rfl (by kernel_rfl)) rfl ?_
    rw [HE.out]
    refine ⟨A1, n1, c1, rfl, ?_, fun b o e => by have h3 : W.heap.size ≤ b := HA1.out b o e; have := HK.out.size; omega, ?_⟩
    · exact HE1.out.keeps (keeps8 _ _ _ _ _ _ _ _ _ _) (fun _ b o e hb => by have h3 : W.heap.size ≤ b := HA1.out b o e; have := HZ.out; omega)
    · have k8 := keeps8 w1 (w.heap.size + 1) (.int .u8 d.K) (.int .i64 d.B) (.slice A1 n1 c1) (.int .i64 d.le) (.int .i64 d.bi) (.int .u8 4) (.int .i64 (1 + B % 60000)) (.int .u8 0)
      exact ⟨k8.os.trans HK1.out.os, k8.tape.trans HK1.out.tape, k8.output.trans HK1.out.output, Nat.le_trans HK1.out.size k8.size, fun x hx hn => (k8.block x (Nat.lt_of_lt_of_le hx HK1.out.size) (by omega)).trans (HK1.out.block x hx hn)⟩
end Go.Proofs.YtgaofnmgdefdcaaGreatDoor.Ds
