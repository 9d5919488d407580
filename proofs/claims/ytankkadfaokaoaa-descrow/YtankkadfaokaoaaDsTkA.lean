/- Ways of bytes taken from a Reader (desc's takeArrays): any bytes. -/
import Derived.Test.YtankkadfaokaoaaDsTkI
namespace Go.Proofs.Ytankkadfaokaoaa.Ds
open Go.RowKit Go.Proofs.Ytankkadfaokaoaa.Gen Go.Proofs.Ytankkadfaokaoaa.Wr Go.Proofs.Ytankkadfaokaoaa.It Go.Proofs.Ytankkadfaokaoaa.Ir Go.Proofs.Ytankkadfaokaoaa.Ib Go.Proofs.Ytankkadfaokaoaa.Tw Go.Proofs.Ytankkadfaokaoaa.Hr Go.Proofs.Ytankkadfaokaoaa.Hz Go.Proofs.Ytankkadfaokaoaa.Hn Go.Proofs.Ytankkadfaokaoaa.Hk Go.Proofs.Ytankkadfaokaoaa.Ln

/-- A way that was taken: where its entries lie. -/
def GotA (base g : Nat) (p : E × RS) (w : World) (r : Ending) (w' : World) : Prop :=
  ∃ A n, r = .returned (.agg (av A n n p.1)) ∧ Ents w' A n p.1.d.L ∧ n ≤ 256 ∧ (∀ b o, A = some ⟨b, o, none⟩ → w.heap.size ≤ b) ∧ IsRd base g p.2 w' ∧ Keeps (· = g) w w'
/-- The blocks of a taking: the Reader's variable, the answer's, the way. -/
structure Tka (base g X : Nat) (A : Option Addr) (n : Nat) (a : E) (s : RS) (w wr : World) : Prop where
  box : Box w g wr
  res : Blk wr (w.heap.size + 1) 34 #[.int .u8 0, .int .i64 0, .slice none 0 0, .int .i64 0, .int .i64 0, .int .u8 0, .int .i64 0, .int .u8 0]
  row : Blk wr X 34 (av A n n a)
  rd : IsRd base g s wr
  far : w.heap.size + 1 < X
theorem Tka.next {base g X n : Nat} {A : Option Addr} {a : E} {s s1 : RS} {w wr w1 : World} (h : Tka base g X A n a s w wr) (hr : IsRd base g s1 w1) (k : Keeps (· = g) wr w1) : Tka base g X A n a s1 w w1 :=
  ⟨h.box.next k, h.res.keeps k (by have := h.box.2.2; omega), h.row.keeps k (by have := h.box.2.2; have := h.far; omega), hr, h.far⟩
theorem Tka.set {base g X n n' i : Nat} {A A' : Option Addr} {a a' : E} {s : RS} {w wr : World} {u : Value} (h : Tka base g X A n a s w wr) (he : (av A n n a).setIfInBounds i u = av A' n' n' a') : Tka base g X A' n' a' s w (wr.setCell ⟨X, i, none⟩ u) := by
  have k : Keeps (· = X) wr (wr.setCell ⟨X, i, none⟩ u) := (Keeps.refl _ _).setOwn i _
  have hf := h.far
  refine ⟨⟨h.box.1.keeps k (by omega), h.box.2.1.setCell (p := ⟨X, i, none⟩) (.inr (by show w.heap.size ≤ X; omega)) _, h.box.2.2⟩, h.res.keeps k (by omega), ?_, h.rd.low k (fun b _ hb e => by have := h.box.2.2; omega), h.far⟩
  rw [← he]
  exact h.row.setCell i u
theorem Tka.got {base g X n : Nat} {A : Option Addr} {a : E} {s : RS} {w wr w1 : World} {r : Ending} (h : Tka base g X A n a s w wr) (k : Keeps (· = w.heap.size + 1) wr w1) (hr : r = .returned (.agg (av A n n a))) (hE : Ents wr A n a.d.L) (hn : n ≤ 256) (hA : ∀ b o, A = some ⟨b, o, none⟩ → w.heap.size ≤ b) (hX : 0 < n → ∀ b o, A = some ⟨b, o, none⟩ → b ≠ w.heap.size + 1) :
    GotA base g (a, s) w r w1 := by
  refine ⟨A, n, hr, hE.keeps k hX, hn, hA, h.rd.low k (fun b _ hb e => by have := h.box.2.2; omega), ?_⟩
  exact ⟨k.os.trans h.box.2.1.os, k.tape.trans h.box.2.1.tape, k.output.trans h.box.2.1.output, Nat.le_trans h.box.2.1.size k.size, fun x hx hn => (k.block x (Nat.lt_of_lt_of_le hx h.box.2.1.size) (by omega)).trans (h.box.2.1.block x hx hn)⟩
theorem keeps8 (w : World) (g : Nat) (a0 a1 a2 a3 a4 a5 a6 a7 : Value) : Keeps (· = g) w ((((((((w.setCell ⟨g, 0, none⟩ a0).setCell ⟨g, 1, none⟩ a1).setCell ⟨g, 2, none⟩ a2).setCell ⟨g, 3, none⟩ a3).setCell ⟨g, 4, none⟩ a4).setCell ⟨g, 5, none⟩ a5).setCell ⟨g, 6, none⟩ a6).setCell ⟨g, 7, none⟩ a7) :=
  ((((((((Keeps.refl _ _).setOwn 0 a0).setOwn 1 a1).setOwn 2 a2).setOwn 3 a3).setOwn 4 a4).setOwn 5 a5).setOwn 6 a6).setOwn 7 a7
theorem put8 {w : World} {g : Nat} {t : TypeId} {u0 u1 u2 u3 u4 u5 u6 u7 : Value} (h : Blk w g t #[u0, u1, u2, u3, u4, u5, u6, u7]) (a0 a1 a2 a3 a4 a5 a6 a7 : Value) : Blk ((((((((w.setCell ⟨g, 0, none⟩ a0).setCell ⟨g, 1, none⟩ a1).setCell ⟨g, 2, none⟩ a2).setCell ⟨g, 3, none⟩ a3).setCell ⟨g, 4, none⟩ a4).setCell ⟨g, 5, none⟩ a5).setCell ⟨g, 6, none⟩ a6).setCell ⟨g, 7, none⟩ a7) g t #[a0, a1, a2, a3, a4, a5, a6, a7] := by
  simpa using (((((((h.setCell 0 a0).setCell 1 a1).setCell 2 a2).setCell 3 a3).setCell 4 a4).setCell 5 a5).setCell 6 a6).setCell 7 a7

set_option maxHeartbeats 16000000 in
set_option maxRecDepth 100000 in
theorem take_a (g : Nat) (s : RS) (base : Nat) (w : World) (h : IsRd base g s w) : Calls Try.prog 41 #[rd g] w (GotA base g (tkA s) w) := by
  have H := Lib.hid h
  obtain ⟨hv0, hv1⟩ := count_in h.2.1 (m := 255) (by omega)
  have HK := Lib.hid (fun W hr => kind_ g s base W hr)
  obtain ⟨T, hT⟩ : ∃ T, T = tkA s := ⟨_, rfl⟩
  rw [← hT]
  unfold tkA at hT
  have HT := Lib.hid hT
  obtain ⟨⟨k, s1⟩, hp⟩ : ∃ p, RS.count s 255 = p := ⟨_, rfl⟩
  rw [hp] at HK HT hv0 hv1
  simp only at HK HT hv0 hv1
  have HCT := Lib.hid (fun W hr => count g s1 base 60000 W hr)
  obtain ⟨⟨B, s2⟩, hp2⟩ : ∃ p, RS.count s1 60000 = p := ⟨_, rfl⟩
  rw [hp2] at HT HCT
  simp only at HT HCT
  clear h hT hp hp2
  unfold rd at HK HCT
  unfold rd
  go_enter Try.func41, Try.ntmps41
  go_upto_region 1 with fail
  generalize hW : (w.alloc (.cells #[.pointer (some ⟨g, 0, none⟩)] 46)).alloc (.cells #[.int .u8 0, .int .i64 0, .slice none 0 0, .int .i64 0, .int .i64 0, .int .u8 0, .int .i64 0, .int .u8 0] 34) = W
  have HX : Hid (Box w g W) := by subst hW; exact Lib.hid ((Box.new w g H.out.lt).next ((Keeps.refl _ _).alloc _))
  have HR := Lib.hid (H.out.keeps (S := fun _ => False) (by rw [← hW]; exact ((Keeps.refl _ _).alloc _).alloc _ : Keeps (fun _ => False) w W) (fun _ _ => id))
  have HZ : Hid (Blk W (w.heap.size + 1) 34 #[.int .u8 0, .int .i64 0, .slice none 0 0, .int .i64 0, .int .i64 0, .int .u8 0, .int .i64 0, .int .u8 0]) := by
    have := Blk.new (w.alloc (.cells #[.pointer (some ⟨g, 0, none⟩)] 46)) 34 #[.int .u8 0, .int .i64 0, .slice none 0 0, .int .i64 0, .int .i64 0, .int .u8 0, .int .i64 0, .int .u8 0]
    have e1 : (w.alloc (.cells #[.pointer (some ⟨g, 0, none⟩)] 46)).heap.size = w.heap.size + 1 := by simp
    rw [e1, hW] at this
    exact this
  have hx := HX.out.cell
  have HLG := Lib.hid H.out.lt
  clear hW H
  go_upto_region 2 with (
    go_at_call 49
    refine (HK.out W HR.out).mono ?_
    rintro e w1 ⟨rfl, hr1, hkk1⟩
    have HX1 := Lib.hid (HX.out.next hkk1)
    have HR1 : Hid (IsRd base g s1 w1) := hr1
    have HZ1 := Lib.hid (HZ.out.keeps hkk1 (by have := HLG.out; omega))
    clear hr1 hkk1 HX HR hx HZ HK)
  obtain ⟨X, hX⟩ : ∃ X, w1.heap.size = X := ⟨_, rfl⟩
  have HT2 : Hid (Tka base g X none 0 ⟨D0, k, 0, 0⟩ s1 w (w1.alloc (.cells #[.int .u8 0, .int .i64 0, .slice none 0 0, .int .i64 0, .int .i64 0, .int .u8 k, .int .i64 0, .int .u8 0] 34))) := by
    have k0 : Keeps (fun _ => False) w1 (w1.alloc (.cells #[.int .u8 0, .int .i64 0, .slice none 0 0, .int .i64 0, .int .i64 0, .int .u8 k, .int .i64 0, .int .u8 0] 34)) := (Keeps.refl _ _).alloc _
    refine Lib.hid ⟨HX1.out.next k0.none_, HZ1.out.keeps k0 id, ?_, HR1.out.keeps k0 (fun _ _ => id), by have := HZ1.out.lt; omega⟩
    rw [← hX]
    exact Blk.new _ _ _
  have HXL : Hid (w.heap.size + 1 < X) := HT2.out.far
  generalize w1.alloc (.cells #[.int .u8 0, .int .i64 0, .slice none 0 0, .int .i64 0, .int .i64 0, .int .u8 k, .int .i64 0, .int .u8 0] 34) = W2 at HT2 ⊢
  rw [hX]
  clear hX HX1 HR1 HZ1
  have hbx := HT2.out.box.cell
  go_upto_region 3 with (
    go_at_call 50
    refine (HCT.out _ HT2.out.rd).mono ?_
    rintro e w3 ⟨rfl, hr3, hk3⟩
    have HT3 := Lib.hid (HT2.out.next hr3 hk3)
    have hc3 : w3.cell? ⟨X, 6, none⟩ = some (.int .i64 0) := HT3.out.row.cell 6
    have hz3 := HT3.out.row.frozen 6
    clear hr3 hk3 HCT)
  have HT4 : Hid (Tka base g X none 0 ⟨D0, k, B, 0⟩ s2 w (w3.setCell ⟨X, 6, none⟩ (.int .i64 B))) := Lib.hid (HT3.out.set rfl)
  generalize w3.setCell ⟨X, 6, none⟩ (.int .i64 B) = W4 at HT4 ⊢
  clear hc3 hz3 hbx HT3 HT2
  have hk0 : W4.cell? ⟨X, 5, none⟩ = some (.int .u8 k) := HT4.out.row.cell 5
  by_cases h4 : k = 4
  · subst h4
    have HC := Lib.hid (fun W hr => take_i g s2 base W hr)
    have HE : Hid (T = (⟨(tkI s2).1, 4, B, 0⟩, (tkI s2).2)) := by
      have := HT.out
      rw [if_pos rfl] at this
      exact this
    generalize tkI s2 = p at *
    obtain ⟨⟨dK, dB, L, le, bi⟩, s3⟩ := p
    unfold rd GotI dv at HC
    simp only at HC HE
    have hbx := HT4.out.box.cell
    clear HT
    go_upto_region 8 with (
      go_at_call 39
      refine (HC.out _ HT4.out.rd).mono ?_
      rintro e w5 ⟨A, n, rfl, hE, hn, hA, hr5, hk5⟩
      have HT5 := Lib.hid (HT4.out.next hr5 hk5)
      have HE5 := Lib.hid hE
      have HN := Lib.hid hn
      have HA : Hid (∀ b o, A = some ⟨b, o, none⟩ → X < b) := Lib.hid (fun b o h => by have := hA b o h; have := HT4.out.row.lt; omega)
      have e0 := HT5.out.row.cell 0
      have z0 := HT5.out.row.frozen 0
      have e1 := HT5.out.row.cell 1
      have z1 := HT5.out.row.frozen 1
      have e2 := HT5.out.row.cell 2
      have z2 := HT5.out.row.frozen 2
      have e3 := HT5.out.row.cell 3
      have z3 := HT5.out.row.frozen 3
      have e4 := HT5.out.row.cell 4
      have z4 := HT5.out.row.frozen 4
      unfold av D0 at e0 e1 e2 e3 e4
      simp only [List.getElem?_toArray, List.getElem?_cons_zero, List.getElem?_cons_succ] at e0 e1 e2 e3 e4
      clear hr5 hk5 hE hn hA hbx hk0)
    have HT6 : Hid (Tka base g X A n ⟨⟨dK, dB, L, le, bi⟩, 4, B, 0⟩ s3 w (((((w5.setCell ⟨X, 0, none⟩ (.int .u8 dK)).setCell ⟨X, 1, none⟩ (.int .i64 dB)).setCell ⟨X, 2, none⟩ (.slice A n n)).setCell ⟨X, 3, none⟩ (.int .i64 le)).setCell ⟨X, 4, none⟩ (.int .i64 bi))) := by
      have t1 : Tka base g X none 0 ⟨⟨dK, 0, [], 0, 0⟩, 4, B, 0⟩ s3 w _ := HT5.out.set (i := 0) (u := .int .u8 dK) rfl
      have t2 : Tka base g X none 0 ⟨⟨dK, dB, [], 0, 0⟩, 4, B, 0⟩ s3 w _ := t1.set (i := 1) (u := .int .i64 dB) rfl
      have t3 : Tka base g X A n ⟨⟨dK, dB, L, 0, 0⟩, 4, B, 0⟩ s3 w _ := t2.set (i := 2) (u := .slice A n n) rfl
      have t4 : Tka base g X A n ⟨⟨dK, dB, L, le, 0⟩, 4, B, 0⟩ s3 w _ := t3.set (i := 3) (u := .int .i64 le) rfl
      exact Lib.hid (t4.set (i := 4) (u := .int .i64 bi) rfl)
    have HE6 : Hid (Ents (((((w5.setCell ⟨X, 0, none⟩ (.int .u8 dK)).setCell ⟨X, 1, none⟩ (.int .i64 dB)).setCell ⟨X, 2, none⟩ (.slice A n n)).setCell ⟨X, 3, none⟩ (.int .i64 le)).setCell ⟨X, 4, none⟩ (.int .i64 bi)) A n L) :=
      Lib.hid (HE5.out.keeps (keeps5 _ X _ _ _ _ _) (fun _ b o h e => by have := HA.out b o h; omega))
    generalize ((((w5.setCell ⟨X, 0, none⟩ (.int .u8 dK)).setCell ⟨X, 1, none⟩ (.int .i64 dB)).setCell ⟨X, 2, none⟩ (.slice A n n)).setCell ⟨X, 3, none⟩ (.int .i64 le)).setCell ⟨X, 4, none⟩ (.int .i64 bi) = W6 at HT6 HE6 ⊢
    clear e0 e1 e2 e3 e4 z0 z1 z2 z3 z4 HT5 HT4 HE5
    have c0 := HT6.out.row.cell 0
    have r0 := HT6.out.res.cell 0
    have f0 := HT6.out.res.frozen 0
    have c1 := HT6.out.row.cell 1
    have r1 := HT6.out.res.cell 1
    have f1 := HT6.out.res.frozen 1
    have c2 := HT6.out.row.cell 2
    have r2 := HT6.out.res.cell 2
    have f2 := HT6.out.res.frozen 2
    have c3 := HT6.out.row.cell 3
    have r3 := HT6.out.res.cell 3
    have f3 := HT6.out.res.frozen 3
    have c4 := HT6.out.row.cell 4
    have r4 := HT6.out.res.cell 4
    have f4 := HT6.out.res.frozen 4
    have c5 := HT6.out.row.cell 5
    have r5 := HT6.out.res.cell 5
    have f5 := HT6.out.res.frozen 5
    have c6 := HT6.out.row.cell 6
    have r6 := HT6.out.res.cell 6
    have f6 := HT6.out.res.frozen 6
    have c7 := HT6.out.row.cell 7
    have r7 := HT6.out.res.cell 7
    have f7 := HT6.out.res.frozen 7
    unfold av at c0 c1 c2 c3 c4 c5 c6 c7
    try unfold D0 at c0 c1 c2 c3 c4 c5 c6 c7
    simp only [List.getElem?_toArray, List.getElem?_cons_zero, List.getElem?_cons_succ] at c0 c1 c2 c3 c4 c5 c6 c7 r0 r1 r2 r3 r4 r5 r6 r7
    have hne : w.heap.size + 1 ≠ X := by have := HXL.out; omega
    go_wp2_with fail
    refine bodyPost_ret (v := .agg #[.int .u8 dK, .int .i64 dB, .slice A n n, .int .i64 le, .int .i64 bi, .int .u8 4, .int .i64 B, .int .u8 0]) ?_ rfl ?_
    · exact results_cell_row rfl _ _ (w.heap.size + 1) 34 _ (0, 0) _ rfl (put8 HT6.out.res _ _ _ _ _ _ _ _) Try.underlying34 rfl (by kernel_rfl)
    · rw [HE.out]
      exact HT6.out.got (keeps8 _ _ _ _ _ _ _ _ _ _) rfl HE6.out HN.out (fun b o h => by have := HA.out b o h; have := HXL.out; omega) (fun _ b o h => by have := HA.out b o h; have := HXL.out; omega)
  · have hn4 : (k == 4) = false := by simpa using h4
    by_cases h5 : k = 5
    · subst h5
      have HC := Lib.hid (fun W hr => Wr.byte g s2 base W hr)
      have HE : Hid (T = (⟨D0, 5, B, s2.byte.1⟩, s2.byte.2)) := by
        have := HT.out
        rw [if_neg (by decide), if_pos rfl] at this
        exact this
      generalize s2.byte = p at *
      obtain ⟨S, s3⟩ := p
      simp only at HC HE
      have hbx := HT4.out.box.cell
      clear HT
      go_upto_region 8 with (
        go_at_call 54
        refine (HC.out _ HT4.out.rd).mono ?_
        rintro e w5 ⟨rfl, hr5, hk5⟩
        have HT5 := Lib.hid (HT4.out.next hr5 hk5)
        have e7 : w5.cell? ⟨X, 7, none⟩ = some (.int .u8 0) := HT5.out.row.cell 7
        have z7 := HT5.out.row.frozen 7
        clear hr5 hk5 hbx hk0)
      have HT6 : Hid (Tka base g X none 0 ⟨D0, 5, B, S⟩ s3 w (w5.setCell ⟨X, 7, none⟩ (.int .u8 S))) := Lib.hid (HT5.out.set rfl)
      generalize w5.setCell ⟨X, 7, none⟩ (.int .u8 S) = W6 at HT6 ⊢
      clear e7 z7 HT5 HT4
      have c0 := HT6.out.row.cell 0
      have r0 := HT6.out.res.cell 0
      have f0 := HT6.out.res.frozen 0
      have c1 := HT6.out.row.cell 1
      have r1 := HT6.out.res.cell 1
      have f1 := HT6.out.res.frozen 1
      have c2 := HT6.out.row.cell 2
      have r2 := HT6.out.res.cell 2
      have f2 := HT6.out.res.frozen 2
      have c3 := HT6.out.row.cell 3
      have r3 := HT6.out.res.cell 3
      have f3 := HT6.out.res.frozen 3
      have c4 := HT6.out.row.cell 4
      have r4 := HT6.out.res.cell 4
      have f4 := HT6.out.res.frozen 4
      have c5 := HT6.out.row.cell 5
      have r5 := HT6.out.res.cell 5
      have f5 := HT6.out.res.frozen 5
      have c6 := HT6.out.row.cell 6
      have r6 := HT6.out.res.cell 6
      have f6 := HT6.out.res.frozen 6
      have c7 := HT6.out.row.cell 7
      have r7 := HT6.out.res.cell 7
      have f7 := HT6.out.res.frozen 7
      unfold av at c0 c1 c2 c3 c4 c5 c6 c7
      try unfold D0 at c0 c1 c2 c3 c4 c5 c6 c7
      simp only [List.getElem?_toArray, List.getElem?_cons_zero, List.getElem?_cons_succ] at c0 c1 c2 c3 c4 c5 c6 c7 r0 r1 r2 r3 r4 r5 r6 r7
      have hne : w.heap.size + 1 ≠ X := by have := HXL.out; omega
      go_wp2_with fail
      refine bodyPost_ret (v := .agg #[.int .u8 0, .int .i64 0, .slice none 0 0, .int .i64 0, .int .i64 0, .int .u8 5, .int .i64 B, .int .u8 S]) ?_ rfl ?_
      · exact results_cell_row rfl _ _ (w.heap.size + 1) 34 _ (0, 0) _ rfl (put8 HT6.out.res _ _ _ _ _ _ _ _) Try.underlying34 rfl (by kernel_rfl)
      · rw [HE.out]
        exact HT6.out.got (keeps8 _ _ _ _ _ _ _ _ _ _) rfl ⟨.inl rfl, rfl, by omega⟩ (by omega) (fun _ _ h => by cases h) (fun h => absurd h (by omega))
    · have hn5 : (k == 5) = false := by simpa using h5
      have HE : Hid (T = (⟨D0, k, B, 0⟩, s2)) := by
        have := HT.out
        rw [if_neg h4, if_neg h5] at this
        exact this
      clear HT
      go_upto_region 8 with fail
      clear hk0
      have c0 := HT4.out.row.cell 0
      have r0 := HT4.out.res.cell 0
      have f0 := HT4.out.res.frozen 0
      have c1 := HT4.out.row.cell 1
      have r1 := HT4.out.res.cell 1
      have f1 := HT4.out.res.frozen 1
      have c2 := HT4.out.row.cell 2
      have r2 := HT4.out.res.cell 2
      have f2 := HT4.out.res.frozen 2
      have c3 := HT4.out.row.cell 3
      have r3 := HT4.out.res.cell 3
      have f3 := HT4.out.res.frozen 3
      have c4 := HT4.out.row.cell 4
      have r4 := HT4.out.res.cell 4
      have f4 := HT4.out.res.frozen 4
      have c5 := HT4.out.row.cell 5
      have r5 := HT4.out.res.cell 5
      have f5 := HT4.out.res.frozen 5
      have c6 := HT4.out.row.cell 6
      have r6 := HT4.out.res.cell 6
      have f6 := HT4.out.res.frozen 6
      have c7 := HT4.out.row.cell 7
      have r7 := HT4.out.res.cell 7
      have f7 := HT4.out.res.frozen 7
      unfold av at c0 c1 c2 c3 c4 c5 c6 c7
      try unfold D0 at c0 c1 c2 c3 c4 c5 c6 c7
      simp only [List.getElem?_toArray, List.getElem?_cons_zero, List.getElem?_cons_succ] at c0 c1 c2 c3 c4 c5 c6 c7 r0 r1 r2 r3 r4 r5 r6 r7
      have hne : w.heap.size + 1 ≠ X := by have := HXL.out; omega
      go_wp2_with fail
      refine bodyPost_ret (v := .agg #[.int .u8 0, .int .i64 0, .slice none 0 0, .int .i64 0, .int .i64 0, .int .u8 k, .int .i64 B, .int .u8 0]) ?_ rfl ?_
      · exact results_cell_row rfl _ _ (w.heap.size + 1) 34 _ (0, 0) _ rfl (put8 HT4.out.res _ _ _ _ _ _ _ _) Try.underlying34 rfl (by kernel_rfl)
      · rw [HE.out]
        exact HT4.out.got (keeps8 _ _ _ _ _ _ _ _ _ _) rfl ⟨.inl rfl, rfl, by omega⟩ (by omega) (fun _ _ h => by cases h) (fun h => absurd h (by omega))
end Go.Proofs.Ytankkadfaokaoaa.Ds
