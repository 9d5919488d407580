/- Ways of numbers taken from a Reader (desc's TakeInts): any bytes; what may not be ends it. -/
import Derived.Test.YtankkadfaokaoaaDsTkI
import Derived.Test.YtankkadfaokaoaaDsChk
namespace Go.Proofs.Ytankkadfaokaoaa.Ds
open Go.RowKit Go.Proofs.Ytankkadfaokaoaa.Gen Go.Proofs.Ytankkadfaokaoaa.Wr Go.Proofs.Ytankkadfaokaoaa.It Go.Proofs.Ytankkadfaokaoaa.Ir Go.Proofs.Ytankkadfaokaoaa.Ib Go.Proofs.Ytankkadfaokaoaa.Tw Go.Proofs.Ytankkadfaokaoaa.Hr Go.Proofs.Ytankkadfaokaoaa.Hz Go.Proofs.Ytankkadfaokaoaa.Hn Go.Proofs.Ytankkadfaokaoaa.Hk Go.Proofs.Ytankkadfaokaoaa.Ln

set_option maxHeartbeats 16000000 in
set_option maxRecDepth 100000 in
theorem take_ii (g : Nat) (s : RS) (base : Nat) (w : World) (h : IsRd base g s w) : Calls Try.prog 20 #[rd g] w (GotI base g (TI s) w) := by
  have H := Lib.hid h
  have HK := Lib.hid (fun W hr => take_i g s base W hr)
  obtain ⟨T, hT⟩ : ∃ T, T = TI s := ⟨_, rfl⟩
  rw [← hT]
  unfold TI at hT
  have HT := Lib.hid hT
  obtain ⟨⟨⟨K, B, L, le, bi⟩, s1⟩, hp⟩ : ∃ p, tkI s = p := ⟨_, rfl⟩
  rw [hp] at HK HT
  simp only at HT
  have HCK := Lib.hid (fun A n w (h : Ents w A n L) => check_i A n n ⟨K, B, L, le, bi⟩ w h)
  obtain ⟨e, he⟩ : ∃ e, chkI ⟨K, B, L, le, bi⟩ = e := ⟨_, rfl⟩
  rw [he] at HT HCK
  have HEN := Lib.hid (fun W hr => ends_ g s1 base e W hr)
  generalize ends s1 e = s2 at *
  by_cases hs : s2.e = 0
  · skip
    have hsd : decide (s2.e = 0) = true := by simpa using hs
    have HE : Hid (T = (⟨K, B, L, le, bi⟩, s2)) := by
      have := HT.out
      rw [if_pos hs] at this
      exact this
    rw [hsd] at HEN
    clear hs hsd
    unfold GotI dv at HK
    unfold dv at HCK
    simp only at HK HCK
    clear h hT hp he
    unfold rd at HK HEN
    unfold rd
    go_enter Try.func20, Try.ntmps20
    go_upto_region 1 with fail
    generalize hW : (w.alloc (.cells #[.pointer (some ⟨g, 0, none⟩)] 46)).alloc (.cells #[.int .u8 0, .int .i64 0, .slice none 0 0, .int .i64 0, .int .i64 0] 31) = W
    have HX : Hid (Box w g W) := by subst hW; exact Lib.hid ((Box.new w g H.out.lt).next ((Keeps.refl _ _).alloc _))
    have HR := Lib.hid (H.out.keeps (S := fun _ => False) (by rw [← hW]; exact ((Keeps.refl _ _).alloc _).alloc _ : Keeps (fun _ => False) w W) (fun _ _ => id))
    have e1 : (w.alloc (.cells #[.pointer (some ⟨g, 0, none⟩)] 46)).heap.size = w.heap.size + 1 := by simp
    have HZ : Hid (Blk W (w.heap.size + 1) 31 #[.int .u8 0, .int .i64 0, .slice none 0 0, .int .i64 0, .int .i64 0]) := by
      have := Blk.new (w.alloc (.cells #[.pointer (some ⟨g, 0, none⟩)] 46)) 31 #[.int .u8 0, .int .i64 0, .slice none 0 0, .int .i64 0, .int .i64 0]
      rw [e1, hW] at this
      exact this
    have hx := HX.out.cell
    have HLG := Lib.hid H.out.lt
    have HWS : Hid (w.heap.size + 1 < W.heap.size) := Lib.hid HZ.out.lt
    clear hW H e1
    go_upto_region 2 with (
      go_at_call 39
      refine (HK.out W HR.out).mono ?_
      rintro e0 w1 ⟨A, n, rfl, hE, hn, hA, hr1, hkk1⟩
      have HX1 := Lib.hid (HX.out.next hkk1)
      have HR1 : Hid (IsRd base g s1 w1) := hr1
      have HZ1 := Lib.hid (HZ.out.keeps hkk1 (by have := HLG.out; omega))
      have HE1 := Lib.hid hE
      have HN := Lib.hid hn
      have HA : Hid (∀ b o, A = some ⟨b, o, none⟩ → w.heap.size + 1 < b) := Lib.hid (fun b o h => by have := hA b o h; have := HWS.out; omega)
      clear hr1 hkk1 HX HR hx HZ HK hE hn hA)
    obtain ⟨X, hX⟩ : ∃ X, w1.heap.size = X := ⟨_, rfl⟩
    have k0 : Keeps (fun _ => False) w1 (w1.alloc (.cells #[.int .u8 K, .int .i64 B, .slice A n n, .int .i64 le, .int .i64 bi] 31)) := (Keeps.refl _ _).alloc _
    have HT2 : Hid (Tki base g X A n ⟨K, B, L, le, bi⟩ s1 w (w1.alloc (.cells #[.int .u8 K, .int .i64 B, .slice A n n, .int .i64 le, .int .i64 bi] 31))) := by
      refine Lib.hid ⟨HX1.out.next k0.none_, HZ1.out.keeps k0 id, ?_, HR1.out.keeps k0 (fun _ _ => id), by have := HZ1.out.lt; omega⟩
      rw [← hX]
      exact Blk.new _ _ _
    have HE2 := Lib.hid (HE1.out.more k0)
    have HXL : Hid (w.heap.size + 1 < X) := HT2.out.far
    generalize w1.alloc (.cells #[.int .u8 K, .int .i64 B, .slice A n n, .int .i64 le, .int .i64 bi] 31) = W2 at HT2 HE2 k0 ⊢
    rw [hX]
    clear hX HX1 HR1 HZ1 k0 HE1
    have hx := HT2.out.box.cell
    have c0 : W2.cell? ⟨X, 0, none⟩ = some (.int .u8 K) := HT2.out.row.cell 0
    have c1 : W2.cell? ⟨X, 1, none⟩ = some (.int .i64 B) := HT2.out.row.cell 1
    have c2 : W2.cell? ⟨X, 2, none⟩ = some (.slice A n n) := HT2.out.row.cell 2
    have c3 : W2.cell? ⟨X, 3, none⟩ = some (.int .i64 le) := HT2.out.row.cell 3
    have c4 : W2.cell? ⟨X, 4, none⟩ = some (.int .i64 bi) := HT2.out.row.cell 4
    go_region_held3 (fun w' => w'.cell? ⟨w.heap.size, 0, none⟩ = some (.pointer (some ⟨g, 0, none⟩)) ∧ w'.cell? ⟨X, 0, none⟩ = some (.int .u8 K) ∧ w'.cell? ⟨X, 1, none⟩ = some (.int .i64 B) ∧ w'.cell? ⟨X, 2, none⟩ = some (.slice A n n) ∧ w'.cell? ⟨X, 3, none⟩ = some (.int .i64 le) ∧ w'.cell? ⟨X, 4, none⟩ = some (.int .i64 bi)) (go_keep)
      ((first
        | (go_at_call 11
           refine (HCK.out A n _ (by exact HE2.out)).mono ?_
           rintro e0 w3 ⟨rfl, hk3⟩
           have hk3' := hk3.of_drew
           have HT3 := Lib.hid (HT2.out.next (HT2.out.rd.keeps hk3' (fun _ _ => id)) hk3'.none_)
           have HE3 := Lib.hid (HE2.out.more hk3')
           have d0 := HT3.out.box.cell
           have d1 : w3.cell? ⟨X, 0, none⟩ = some (.int .u8 K) := HT3.out.row.cell 0
           have d2 : w3.cell? ⟨X, 1, none⟩ = some (.int .i64 B) := HT3.out.row.cell 1
           have d3 : w3.cell? ⟨X, 2, none⟩ = some (.slice A n n) := HT3.out.row.cell 2
           have d4 : w3.cell? ⟨X, 3, none⟩ = some (.int .i64 le) := HT3.out.row.cell 3
           have d5 : w3.cell? ⟨X, 4, none⟩ = some (.int .i64 bi) := HT3.out.row.cell 4
           clear hk3 hk3')
        | (go_at_call 40
           refine (HEN.out _ (by exact HT3.out.rd)).mono ?_
           rintro e0 w4 ⟨rfl, hr4, hk4⟩
           have HT4 := Lib.hid (HT3.out.next hr4 hk4)
           have HE4 := Lib.hid (HE3.out.keeps hk4 (fun _ b o h => by have := HA.out b o h; have := HLG.out; omega))
           have d0 := HT4.out.box.cell
           have d1 : w4.cell? ⟨X, 0, none⟩ = some (.int .u8 K) := HT4.out.row.cell 0
           have d2 : w4.cell? ⟨X, 1, none⟩ = some (.int .i64 B) := HT4.out.row.cell 1
           have d3 : w4.cell? ⟨X, 2, none⟩ = some (.slice A n n) := HT4.out.row.cell 2
           have d4 : w4.cell? ⟨X, 3, none⟩ = some (.int .i64 le) := HT4.out.row.cell 3
           have d5 : w4.cell? ⟨X, 4, none⟩ = some (.int .i64 bi) := HT4.out.row.cell 4
           clear hr4 hk4)))
    have r0 := HT4.out.res.cell 0
    have f0 := HT4.out.res.frozen 0
    have r1 := HT4.out.res.cell 1
    have f1 := HT4.out.res.frozen 1
    have r2 := HT4.out.res.cell 2
    have f2 := HT4.out.res.frozen 2
    have r3 := HT4.out.res.cell 3
    have f3 := HT4.out.res.frozen 3
    have r4 := HT4.out.res.cell 4
    have f4 := HT4.out.res.frozen 4
    simp only [List.getElem?_toArray, List.getElem?_cons_zero, List.getElem?_cons_succ] at r0 r1 r2 r3 r4
    have hne : w.heap.size + 1 ≠ X := by have := HXL.out; omega
    clear hx c0 c1 c2 c3 c4
    go_wp2_with fail
    refine bodyPost_ret (v := .agg #[.int .u8 K, .int .i64 B, .slice A n n, .int .i64 le, .int .i64 bi]) ?_ rfl ?_
    · exact results_cell_row rfl _ _ (w.heap.size + 1) 31 _ (0, 0) _ rfl (put5 HT4.out.res _ _ _ _ _) Try.underlying31 rfl (by kernel_rfl)
    · rw [HE.out]
      exact HT4.out.got (keeps5 _ _ _ _ _ _ _) rfl HE4.out HN.out (fun b o h => by have := HA.out b o h; omega) (fun _ b o h => by have := HA.out b o h; omega)
  · skip
    have hsd : decide (s2.e = 0) = false := by simpa using hs
    have HE : Hid (T = (D0, s2)) := by
      have := HT.out
      rw [if_neg hs] at this
      exact this
    rw [hsd] at HEN
    clear hs hsd
    unfold GotI dv at HK
    unfold dv at HCK
    simp only at HK HCK
    clear h hT hp he
    unfold rd at HK HEN
    unfold rd
    go_enter Try.func20, Try.ntmps20
    go_upto_region 1 with fail
    generalize hW : (w.alloc (.cells #[.pointer (some ⟨g, 0, none⟩)] 46)).alloc (.cells #[.int .u8 0, .int .i64 0, .slice none 0 0, .int .i64 0, .int .i64 0] 31) = W
    have HX : Hid (Box w g W) := by subst hW; exact Lib.hid ((Box.new w g H.out.lt).next ((Keeps.refl _ _).alloc _))
    have HR := Lib.hid (H.out.keeps (S := fun _ => False) (by rw [← hW]; exact ((Keeps.refl _ _).alloc _).alloc _ : Keeps (fun _ => False) w W) (fun _ _ => id))
    have e1 : (w.alloc (.cells #[.pointer (some ⟨g, 0, none⟩)] 46)).heap.size = w.heap.size + 1 := by simp
    have HZ : Hid (Blk W (w.heap.size + 1) 31 #[.int .u8 0, .int .i64 0, .slice none 0 0, .int .i64 0, .int .i64 0]) := by
      have := Blk.new (w.alloc (.cells #[.pointer (some ⟨g, 0, none⟩)] 46)) 31 #[.int .u8 0, .int .i64 0, .slice none 0 0, .int .i64 0, .int .i64 0]
      rw [e1, hW] at this
      exact this
    have hx := HX.out.cell
    have HLG := Lib.hid H.out.lt
    have HWS : Hid (w.heap.size + 1 < W.heap.size) := Lib.hid HZ.out.lt
    clear hW H e1
    go_upto_region 2 with (
      go_at_call 39
      refine (HK.out W HR.out).mono ?_
      rintro e0 w1 ⟨A, n, rfl, hE, hn, hA, hr1, hkk1⟩
      have HX1 := Lib.hid (HX.out.next hkk1)
      have HR1 : Hid (IsRd base g s1 w1) := hr1
      have HZ1 := Lib.hid (HZ.out.keeps hkk1 (by have := HLG.out; omega))
      have HE1 := Lib.hid hE
      have HN := Lib.hid hn
      have HA : Hid (∀ b o, A = some ⟨b, o, none⟩ → w.heap.size + 1 < b) := Lib.hid (fun b o h => by have := hA b o h; have := HWS.out; omega)
      clear hr1 hkk1 HX HR hx HZ HK hE hn hA)
    obtain ⟨X, hX⟩ : ∃ X, w1.heap.size = X := ⟨_, rfl⟩
    have k0 : Keeps (fun _ => False) w1 (w1.alloc (.cells #[.int .u8 K, .int .i64 B, .slice A n n, .int .i64 le, .int .i64 bi] 31)) := (Keeps.refl _ _).alloc _
    have HT2 : Hid (Tki base g X A n ⟨K, B, L, le, bi⟩ s1 w (w1.alloc (.cells #[.int .u8 K, .int .i64 B, .slice A n n, .int .i64 le, .int .i64 bi] 31))) := by
      refine Lib.hid ⟨HX1.out.next k0.none_, HZ1.out.keeps k0 id, ?_, HR1.out.keeps k0 (fun _ _ => id), by have := HZ1.out.lt; omega⟩
      rw [← hX]
      exact Blk.new _ _ _
    have HE2 := Lib.hid (HE1.out.more k0)
    have HXL : Hid (w.heap.size + 1 < X) := HT2.out.far
    generalize w1.alloc (.cells #[.int .u8 K, .int .i64 B, .slice A n n, .int .i64 le, .int .i64 bi] 31) = W2 at HT2 HE2 k0 ⊢
    rw [hX]
    clear hX HX1 HR1 HZ1 k0 HE1
    have hx := HT2.out.box.cell
    have c0 : W2.cell? ⟨X, 0, none⟩ = some (.int .u8 K) := HT2.out.row.cell 0
    have c1 : W2.cell? ⟨X, 1, none⟩ = some (.int .i64 B) := HT2.out.row.cell 1
    have c2 : W2.cell? ⟨X, 2, none⟩ = some (.slice A n n) := HT2.out.row.cell 2
    have c3 : W2.cell? ⟨X, 3, none⟩ = some (.int .i64 le) := HT2.out.row.cell 3
    have c4 : W2.cell? ⟨X, 4, none⟩ = some (.int .i64 bi) := HT2.out.row.cell 4
    go_region_held3 (fun w' => w'.cell? ⟨w.heap.size, 0, none⟩ = some (.pointer (some ⟨g, 0, none⟩)) ∧ w'.cell? ⟨X, 0, none⟩ = some (.int .u8 K) ∧ w'.cell? ⟨X, 1, none⟩ = some (.int .i64 B) ∧ w'.cell? ⟨X, 2, none⟩ = some (.slice A n n) ∧ w'.cell? ⟨X, 3, none⟩ = some (.int .i64 le) ∧ w'.cell? ⟨X, 4, none⟩ = some (.int .i64 bi)) (go_keep)
      ((first
        | (go_at_call 11
           refine (HCK.out A n _ (by exact HE2.out)).mono ?_
           rintro e0 w3 ⟨rfl, hk3⟩
           have hk3' := hk3.of_drew
           have HT3 := Lib.hid (HT2.out.next (HT2.out.rd.keeps hk3' (fun _ _ => id)) hk3'.none_)
           have HE3 := Lib.hid (HE2.out.more hk3')
           have d0 := HT3.out.box.cell
           have d1 : w3.cell? ⟨X, 0, none⟩ = some (.int .u8 K) := HT3.out.row.cell 0
           have d2 : w3.cell? ⟨X, 1, none⟩ = some (.int .i64 B) := HT3.out.row.cell 1
           have d3 : w3.cell? ⟨X, 2, none⟩ = some (.slice A n n) := HT3.out.row.cell 2
           have d4 : w3.cell? ⟨X, 3, none⟩ = some (.int .i64 le) := HT3.out.row.cell 3
           have d5 : w3.cell? ⟨X, 4, none⟩ = some (.int .i64 bi) := HT3.out.row.cell 4
           clear hk3 hk3')
        | (go_at_call 40
           refine (HEN.out _ (by exact HT3.out.rd)).mono ?_
           rintro e0 w4 ⟨rfl, hr4, hk4⟩
           have HT4 := Lib.hid (HT3.out.next hr4 hk4)
           have HE4 := Lib.hid (HE3.out.keeps hk4 (fun _ b o h => by have := HA.out b o h; have := HLG.out; omega))
           have d0 := HT4.out.box.cell
           have d1 : w4.cell? ⟨X, 0, none⟩ = some (.int .u8 K) := HT4.out.row.cell 0
           have d2 : w4.cell? ⟨X, 1, none⟩ = some (.int .i64 B) := HT4.out.row.cell 1
           have d3 : w4.cell? ⟨X, 2, none⟩ = some (.slice A n n) := HT4.out.row.cell 2
           have d4 : w4.cell? ⟨X, 3, none⟩ = some (.int .i64 le) := HT4.out.row.cell 3
           have d5 : w4.cell? ⟨X, 4, none⟩ = some (.int .i64 bi) := HT4.out.row.cell 4
           clear hr4 hk4)))
    have r0 := HT4.out.res.cell 0
    have f0 := HT4.out.res.frozen 0
    have r1 := HT4.out.res.cell 1
    have f1 := HT4.out.res.frozen 1
    have r2 := HT4.out.res.cell 2
    have f2 := HT4.out.res.frozen 2
    have r3 := HT4.out.res.cell 3
    have f3 := HT4.out.res.frozen 3
    have r4 := HT4.out.res.cell 4
    have f4 := HT4.out.res.frozen 4
    simp only [List.getElem?_toArray, List.getElem?_cons_zero, List.getElem?_cons_succ] at r0 r1 r2 r3 r4
    have hne : w.heap.size + 1 ≠ X := by have := HXL.out; omega
    clear hx c0 c1 c2 c3 c4
    go_wp2_with fail
    refine bodyPost_ret (v := .agg #[.int .u8 0, .int .i64 0, .slice none 0 0, .int .i64 0, .int .i64 0]) ?_ rfl ?_
    · exact results_cell_row rfl _ _ (w.heap.size + 1) 31 _ (0, 0) _ rfl (put5 HT4.out.res _ _ _ _ _) Try.underlying31 rfl (by kernel_rfl)
    · rw [HE.out]
      have k5 := keeps5 w4 (w.heap.size + 1) (.int .u8 0) (.int .i64 0) (.slice none 0 0) (.int .i64 0) (.int .i64 0)
      refine ⟨none, 0, rfl, ⟨.inl rfl, rfl, by omega⟩, by omega, (fun _ _ h => by cases h), HT4.out.rd.low k5 (fun b _ hb e => by have := HLG.out; omega), ?_⟩
      exact ⟨k5.os.trans HT4.out.box.2.1.os, k5.tape.trans HT4.out.box.2.1.tape, k5.output.trans HT4.out.box.2.1.output, Nat.le_trans HT4.out.box.2.1.size k5.size, fun x hx hn => (k5.block x (Nat.lt_of_lt_of_le hx HT4.out.box.2.1.size) (by omega)).trans (HT4.out.box.2.1.block x hx hn)⟩
end Go.Proofs.Ytankkadfaokaoaa.Ds
