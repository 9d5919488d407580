/- Ways of numbers taken from a Reader (desc's takeInts, ends, TakeInts): any bytes. -/
import Derived.Test.YtankkadfaokaoaaDsTk
import Derived.Test.YtankkadfaokaoaaFrqSc
namespace Go.Proofs.Ytankkadfaokaoaa.Ds
open Go.RowKit Go.Proofs.Ytankkadfaokaoaa.Gen Go.Proofs.Ytankkadfaokaoaa.Wr Go.Proofs.Ytankkadfaokaoaa.It Go.Proofs.Ytankkadfaokaoaa.Ir Go.Proofs.Ytankkadfaokaoaa.Ib Go.Proofs.Ytankkadfaokaoaa.Tw Go.Proofs.Ytankkadfaokaoaa.Hr Go.Proofs.Ytankkadfaokaoaa.Hz Go.Proofs.Ytankkadfaokaoaa.Hn Go.Proofs.Ytankkadfaokaoaa.Hk Go.Proofs.Ytankkadfaokaoaa.Ln

theorem ends_ (g : Nat) (s : RS) (base : Nat) (e : Int) (w : World) (h : IsRd base g s w) : Calls Try.prog 40 #[rd g, .int .i64 e] w (Turns base g (.bool (decide ((ends s e).e = 0))) (ends s e) w) := by
  have H := Lib.hid h
  clear h
  unfold rd
  by_cases he : e = 0
  · subst he
    have HE : Hid (ends s 0 = s) := by show _ = _; simp [ends]
    go_enter Try.func40, Try.ntmps40
    go_wp2_with fail
    generalize hW : w.alloc (.cells #[.pointer (some ⟨g, 0, none⟩)] 46) = W
    have HX : Hid (Box w g W) := by subst hW; exact Box.new w g H.out.lt
    have HR := Lib.hid (HX.out.rd H.out hW.symm)
    have hx := HX.out.cell
    clear hW H
    refine (Wr.err g _ base _ HR.out).mono ?_
    rintro e w3 ⟨rfl, rfl⟩
    go_wp2
    go_ret
    rw [HE.out]
    refine ⟨?_, HR.out, HX.out.2.1⟩
    refine congrArg (fun b => Ending.returned (Value.bool b)) ?_
    rw [Bool.eq_iff_iff]
    simp
  · have HE : Hid (ends s e = s.fail e) := by show _ = _; simp [ends, he]
    have hne : (e != 0) = true := by simpa using he
    go_enter Try.func40, Try.ntmps40
    go_wp2_with fail
    generalize hW : w.alloc (.cells #[.pointer (some ⟨g, 0, none⟩)] 46) = W
    have HX : Hid (Box w g W) := by subst hW; exact Box.new w g H.out.lt
    have HR := Lib.hid (HX.out.rd H.out hW.symm)
    have hx := HX.out.cell
    clear hW H
    refine (Wr.fail g s base e _ HR.out).mono ?_
    rintro r w2 ⟨rfl, hr, hk⟩
    have HX2 := Lib.hid (HX.out.next hk)
    have HR2 := Lib.hid hr
    have hx2 := HX2.out.cell
    clear hr hk
    go_wp2_with fail
    refine (Wr.err g _ base _ HR2.out).mono ?_
    rintro r w3 ⟨rfl, rfl⟩
    go_wp2
    go_ret
    rw [HE.out]
    refine ⟨?_, HR2.out, HX2.out.2.1⟩
    refine congrArg (fun b => Ending.returned (Value.bool b)) ?_
    rw [Bool.eq_iff_iff]
    simp

/-- A way that was taken: where its entries lie. -/
def GotI (base g : Nat) (p : D × RS) (w : World) (r : Ending) (w' : World) : Prop :=
  ∃ A n, r = .returned (.agg (dv A n n p.1)) ∧ Ents w' A n p.1.L ∧ n ≤ 256 ∧ (∀ b o, A = some ⟨b, o, none⟩ → w.heap.size ≤ b) ∧ IsRd base g p.2 w' ∧ Keeps (· = g) w w'
def zi : Array Value := #[.int .u8 0, .int .i64 0, .slice none 0 0, .int .i64 0, .int .i64 0]
/-- The blocks of a taking: the Reader's variable, the answer's, the way. -/
structure Tki (base g X : Nat) (A : Option Addr) (n : Nat) (d : D) (s : RS) (w wr : World) : Prop where
  box : Box w g wr
  res : Blk wr (w.heap.size + 1) 31 #[.int .u8 0, .int .i64 0, .slice none 0 0, .int .i64 0, .int .i64 0]
  row : Blk wr X 31 (dv A n n d)
  rd : IsRd base g s wr
  far : w.heap.size + 1 < X
theorem Tki.next {base g X n : Nat} {A : Option Addr} {d : D} {s s1 : RS} {w wr w1 : World} (h : Tki base g X A n d s w wr) (hr : IsRd base g s1 w1) (k : Keeps (· = g) wr w1) : Tki base g X A n d s1 w w1 :=
  ⟨h.box.next k, h.res.keeps k (by have := h.box.2.2; omega), h.row.keeps k (by have := h.box.2.2; have := h.far; omega), hr, h.far⟩
theorem Tki.set {base g X n n' i : Nat} {A A' : Option Addr} {d d' : D} {s : RS} {w wr : World} {u : Value} (h : Tki base g X A n d s w wr) (he : (dv A n n d).setIfInBounds i u = dv A' n' n' d') : Tki base g X A' n' d' s w (wr.setCell ⟨X, i, none⟩ u) := by
  have k : Keeps (· = X) wr (wr.setCell ⟨X, i, none⟩ u) := (Keeps.refl _ _).setOwn i _
  have hf := h.far
  refine ⟨⟨h.box.1.keeps k (by omega), h.box.2.1.setCell (p := ⟨X, i, none⟩) (.inr (by show w.heap.size ≤ X; omega)) _, h.box.2.2⟩, h.res.keeps k (by omega), ?_, h.rd.low k (fun b _ hb e => by have := h.box.2.2; omega), h.far⟩
  rw [← he]
  exact h.row.setCell i u
theorem dv_get (A : Option Addr) (n c : Nat) (d : D) : (dv A n c d)[0]? = some (.int .u8 d.K) ∧ (dv A n c d)[1]? = some (.int .i64 d.B) ∧ (dv A n c d)[2]? = some (.slice A n c) ∧ (dv A n c d)[3]? = some (.int .i64 d.le) ∧ (dv A n c d)[4]? = some (.int .i64 d.bi) := ⟨rfl, rfl, rfl, rfl, rfl⟩
theorem Tki.got {base g X n : Nat} {A : Option Addr} {d : D} {s : RS} {w wr w1 : World} {r : Ending} (h : Tki base g X A n d s w wr) (k : Keeps (· = w.heap.size + 1) wr w1) (hr : r = .returned (.agg (dv A n n d))) (hE : Ents wr A n d.L) (hn : n ≤ 256) (hA : ∀ b o, A = some ⟨b, o, none⟩ → w.heap.size ≤ b) (hX : 0 < n → ∀ b o, A = some ⟨b, o, none⟩ → b ≠ w.heap.size + 1) :
    GotI base g (d, s) w r w1 := by
  refine ⟨A, n, hr, hE.keeps k hX, hn, hA, h.rd.low k (fun b _ hb e => by have := h.box.2.2; omega), ?_⟩
  exact ⟨k.os.trans h.box.2.1.os, k.tape.trans h.box.2.1.tape, k.output.trans h.box.2.1.output, Nat.le_trans h.box.2.1.size k.size, fun x hx hn => (k.block x (Nat.lt_of_lt_of_le hx h.box.2.1.size) (by omega)).trans (h.box.2.1.block x hx hn)⟩
theorem keeps5 (w : World) (g : Nat) (a b c d e : Value) : Keeps (· = g) w (((((w.setCell ⟨g, 0, none⟩ a).setCell ⟨g, 1, none⟩ b).setCell ⟨g, 2, none⟩ c).setCell ⟨g, 3, none⟩ d).setCell ⟨g, 4, none⟩ e) :=
  (((((Keeps.refl _ _).setOwn 0 a).setOwn 1 b).setOwn 2 c).setOwn 3 d).setOwn 4 e
theorem put5 {w : World} {g : Nat} {t : TypeId} {u0 u1 u2 u3 u4 : Value} (h : Blk w g t #[u0, u1, u2, u3, u4]) (a b c d e : Value) : Blk (((((w.setCell ⟨g, 0, none⟩ a).setCell ⟨g, 1, none⟩ b).setCell ⟨g, 2, none⟩ c).setCell ⟨g, 3, none⟩ d).setCell ⟨g, 4, none⟩ e) g t #[a, b, c, d, e] := by
  simpa using ((((h.setCell 0 a).setCell 1 b).setCell 2 c).setCell 3 d).setCell 4 e

set_option maxHeartbeats 16000000 in
set_option maxRecDepth 100000 in
theorem take_i (g : Nat) (s : RS) (base : Nat) (w : World) (h : IsRd base g s w) : Calls Try.prog 39 #[rd g] w (GotI base g (tkI s) w) := by
  have H := Lib.hid h
  obtain ⟨hv0, hv1⟩ := count_in h.2.1 (m := 255) (by omega)
  have HK := Lib.hid (fun W hr => kind_ g s base W hr)
  obtain ⟨T, hT⟩ : ∃ T, T = tkI s := ⟨_, rfl⟩
  rw [← hT]
  unfold tkI at hT
  have HT := Lib.hid hT
  obtain ⟨⟨k, s1⟩, hp⟩ : ∃ p, RS.count s 255 = p := ⟨_, rfl⟩
  rw [hp] at HK HT hv0 hv1
  simp only at HK HT hv0 hv1
  clear h hT hp
  unfold rd at HK
  unfold rd
  go_enter Try.func39, Try.ntmps39
  go_upto_region 1 with fail
  generalize hW : (w.alloc (.cells #[.pointer (some ⟨g, 0, none⟩)] 46)).alloc (.cells #[.int .u8 0, .int .i64 0, .slice none 0 0, .int .i64 0, .int .i64 0] 31) = W
  have HX : Hid (Box w g W) := by subst hW; exact Lib.hid ((Box.new w g H.out.lt).next ((Keeps.refl _ _).alloc _))
  have HR := Lib.hid (H.out.keeps (S := fun _ => False) (by rw [← hW]; exact ((Keeps.refl _ _).alloc _).alloc _ : Keeps (fun _ => False) w W) (fun _ _ => id))
  have HZ : Hid (Blk W (w.heap.size + 1) 31 #[.int .u8 0, .int .i64 0, .slice none 0 0, .int .i64 0, .int .i64 0]) := by
    have := Blk.new (w.alloc (.cells #[.pointer (some ⟨g, 0, none⟩)] 46)) 31 #[.int .u8 0, .int .i64 0, .slice none 0 0, .int .i64 0, .int .i64 0]
    have e1 : (w.alloc (.cells #[.pointer (some ⟨g, 0, none⟩)] 46)).heap.size = w.heap.size + 1 := by simp
    rw [e1, hW] at this
    exact this
  have hx := HX.out.cell
  have HLG := Lib.hid H.out.lt
  clear hW H
  go_upto_region 2 with (
    go_at_call 49
    refine (HK.out W HR.out).mono ?_
    rintro e w1 ⟨rfl, hr1, hkk1⟩
    have HX1 := Lib.hid (HX.out.next hkk1)
    have HR1 : Hid (IsRd base g s1 w1) := hr1
    have HZ1 := Lib.hid (HZ.out.keeps hkk1 (by have := HLG.out; omega))
    clear hr1 hkk1 HX HR hx HZ HK)
  obtain ⟨X, hX⟩ : ∃ X, w1.heap.size = X := ⟨_, rfl⟩
  have HT2 : Hid (Tki base g X none 0 ⟨k, 0, [], 0, 0⟩ s1 w (w1.alloc (.cells #[.int .u8 k, .int .i64 0, .slice none 0 0, .int .i64 0, .int .i64 0] 31))) := by
    have k0 : Keeps (fun _ => False) w1 (w1.alloc (.cells #[.int .u8 k, .int .i64 0, .slice none 0 0, .int .i64 0, .int .i64 0] 31)) := (Keeps.refl _ _).alloc _
    refine Lib.hid ⟨HX1.out.next k0.none_, HZ1.out.keeps k0 id, ?_, HR1.out.keeps k0 (fun _ _ => id), by have := HZ1.out.lt; omega⟩
    rw [← hX]
    exact Blk.new _ _ _
  have HXL : Hid (w.heap.size + 1 < X) := HT2.out.far
  generalize w1.alloc (.cells #[.int .u8 k, .int .i64 0, .slice none 0 0, .int .i64 0, .int .i64 0] 31) = W2 at HT2 ⊢
  rw [hX]
  clear hX HX1 HR1 HZ1
  have hk0 : W2.cell? ⟨X, 0, none⟩ = some (.int .u8 k) := HT2.out.row.cell 0
  by_cases h1 : k = 1
  · subst h1
    have HC := Lib.hid (fun W hr => count g s1 base 60000 W hr)
    have HE : Hid (T = (⟨1, (RS.count s1 60000).1, [], 0, 0⟩, (RS.count s1 60000).2)) := by
      have := HT.out
      rw [if_pos rfl] at this
      exact this
    generalize RS.count s1 60000 = p at *
    obtain ⟨B, s2⟩ := p
    unfold rd at HC
    simp only at HC HE
    have hbx := HT2.out.box.cell
    clear HT
    go_upto_region 10 with (
      go_at_call 50
      refine (HC.out _ HT2.out.rd).mono ?_
      rintro e w3 ⟨rfl, hr3, hk3⟩
      have HT3 := Lib.hid (HT2.out.next hr3 hk3)
      have hc3 : w3.cell? ⟨X, 1, none⟩ = some (.int .i64 0) := HT3.out.row.cell 1
      have hz3 := HT3.out.row.frozen 1
      clear hr3 hk3)
    have HT4 : Hid (Tki base g X none 0 ⟨1, B, [], 0, 0⟩ s2 w (w3.setCell ⟨X, 1, none⟩ (.int .i64 B))) := Lib.hid (HT3.out.set rfl)
    generalize w3.setCell ⟨X, 1, none⟩ (.int .i64 B) = W4 at HT4 ⊢
    clear hc3 hz3 hk0 hbx HT3
    have c0 := HT4.out.row.cell 0
    have c1 := HT4.out.row.cell 1
    have c2 := HT4.out.row.cell 2
    have c3 := HT4.out.row.cell 3
    have c4 := HT4.out.row.cell 4
    rw [(dv_get _ _ _ _).1] at c0
    rw [(dv_get _ _ _ _).2.1] at c1
    rw [(dv_get _ _ _ _).2.2.1] at c2
    rw [(dv_get _ _ _ _).2.2.2.1] at c3
    rw [(dv_get _ _ _ _).2.2.2.2] at c4
    simp only at c0 c1 c2 c3 c4
    have r0 := HT4.out.res.cell 0
    have f0 := HT4.out.res.frozen 0
    have r1 := HT4.out.res.cell 1
    have f1 := HT4.out.res.frozen 1
    have r2 := HT4.out.res.cell 2
    have f2 := HT4.out.res.frozen 2
    have r3 := HT4.out.res.cell 3
    have f3 := HT4.out.res.frozen 3
    have r4 := HT4.out.res.cell 4
    have f4 := HT4.out.res.frozen 4
    simp only [List.getElem?_toArray, List.getElem?_cons_zero, List.getElem?_cons_succ] at r0 r1 r2 r3 r4
    have hne : w.heap.size + 1 ≠ X := by have := HXL.out; omega
    go_wp2_with fail
    refine bodyPost_ret (v := .agg #[.int .u8 1, .int .i64 B, .slice none 0 0, .int .i64 0, .int .i64 0]) ?_ rfl ?_
    · exact results_cell_row rfl _ _ (w.heap.size + 1) 31 _ (0, 0) _ rfl (put5 HT4.out.res _ _ _ _ _) Try.underlying31 rfl (by kernel_rfl)
    · rw [HE.out]
      exact HT4.out.got (keeps5 _ _ _ _ _ _ _) rfl ⟨.inl rfl, rfl, by omega⟩ (by omega) (fun _ _ h => by cases h) (fun h => absurd h (by omega))
  · have hn1 : (k == 1) = false := by simpa using h1
    by_cases h3 : k = 3
    · subst h3
      have HC := Lib.hid (fun W hr => take_ents g s1 base W hr)
      have HE : Hid (T = (⟨3, 0, (tkE s1).1, 0, 0⟩, (tkE s1).2)) := by
        have := HT.out
        rw [if_neg (by decide), if_pos rfl] at this
        exact this
      generalize tkE s1 = p at *
      obtain ⟨L, s2⟩ := p
      unfold rd at HC
      simp only at HC HE
      have hbx := HT2.out.box.cell
      clear HT
      go_upto_region 10 with (
        go_at_call 51
        refine (HC.out _ HT2.out.rd).mono ?_
        rintro e w3 ⟨Bk, m, rfl, hB3, he3, hm3, hr3, hk3⟩
        have HT3 := Lib.hid (HT2.out.next hr3 hk3)
        have HE3 := Lib.hid he3
        have HM3 := Lib.hid hm3
        have HB3 : Hid (W2.heap.size ≤ Bk) := hB3
        have hc3 : w3.cell? ⟨X, 2, none⟩ = some (.slice none 0 0) := HT3.out.row.cell 2
        have hz3 := HT3.out.row.frozen 2
        clear hr3 hk3 he3 hm3 hB3)
      have HT4 : Hid (Tki base g X (some ⟨Bk, 0, none⟩) m ⟨3, 0, L, 0, 0⟩ s2 w (w3.setCell ⟨X, 2, none⟩ (.slice (some ⟨Bk, 0, none⟩) m m))) := Lib.hid (HT3.out.set rfl)
      have HXB : Hid (X < Bk) := by have := HB3.out; have := HT2.out.row.lt; show _ < _; omega
      have HE4 : Hid (Ents (w3.setCell ⟨X, 2, none⟩ (.slice (some ⟨Bk, 0, none⟩) m m)) (some ⟨Bk, 0, none⟩) m L) := Lib.hid (HE3.out.keeps ((Keeps.refl (· = X) _).setOwn 2 _) (fun _ b o e h => by injection e with e; injection e with e; have := HXB.out; omega))
      generalize w3.setCell ⟨X, 2, none⟩ (.slice (some ⟨Bk, 0, none⟩) m m) = W4 at HT4 HE4 ⊢
      clear hc3 hz3 hk0 hbx HT3 HE3
      have c0 := HT4.out.row.cell 0
      have c1 := HT4.out.row.cell 1
      have c2 := HT4.out.row.cell 2
      have c3 := HT4.out.row.cell 3
      have c4 := HT4.out.row.cell 4
      rw [(dv_get _ _ _ _).1] at c0
      rw [(dv_get _ _ _ _).2.1] at c1
      rw [(dv_get _ _ _ _).2.2.1] at c2
      rw [(dv_get _ _ _ _).2.2.2.1] at c3
      rw [(dv_get _ _ _ _).2.2.2.2] at c4
      simp only at c0 c1 c2 c3 c4
      have r0 := HT4.out.res.cell 0
      have f0 := HT4.out.res.frozen 0
      have r1 := HT4.out.res.cell 1
      have f1 := HT4.out.res.frozen 1
      have r2 := HT4.out.res.cell 2
      have f2 := HT4.out.res.frozen 2
      have r3 := HT4.out.res.cell 3
      have f3 := HT4.out.res.frozen 3
      have r4 := HT4.out.res.cell 4
      have f4 := HT4.out.res.frozen 4
      simp only [List.getElem?_toArray, List.getElem?_cons_zero, List.getElem?_cons_succ] at r0 r1 r2 r3 r4
      have hne : w.heap.size + 1 ≠ X := by have := HXL.out; omega
      go_wp2_with fail
      refine bodyPost_ret (v := .agg #[.int .u8 3, .int .i64 0, .slice (some ⟨Bk, 0, none⟩) m m, .int .i64 0, .int .i64 0]) ?_ rfl ?_
      · exact results_cell_row rfl _ _ (w.heap.size + 1) 31 _ (0, 0) _ rfl (put5 HT4.out.res _ _ _ _ _) Try.underlying31 rfl (by kernel_rfl)
      · rw [HE.out]
        exact HT4.out.got (keeps5 _ _ _ _ _ _ _) rfl HE4.out HM3.out (fun b o e => by injection e with e; injection e with e; have := HXB.out; have := HXL.out; omega) (fun _ b o e h => by injection e with e; injection e with e; have := HXB.out; have := HXL.out; omega)
    · have hn3 : (k == 3) = false := by simpa using h3
      by_cases h6 : k = 6
      · subst h6
        have HC := Lib.hid (fun W hr => signed g s1 base W hr)
        have HE : Hid (T = (⟨6, 0, [], sign32 (RS.int s1).1, (RS.count (RS.int s1).2 31).1⟩, (RS.count (RS.int s1).2 31).2)) := by
          have := HT.out
          rw [if_neg (by decide), if_neg (by decide), if_pos rfl] at this
          exact this
        generalize RS.int s1 = p at *
        obtain ⟨l0, s2⟩ := p
        simp only at HC HE
        generalize sign32 l0 = l at *
        have HC2 := Lib.hid (fun W hr => count g s2 base 31 W hr)
        generalize RS.count s2 31 = p at *
        obtain ⟨bb, s3⟩ := p
        unfold rd at HC HC2
        simp only at HC HC2 HE
        have hbx := HT2.out.box.cell
        clear HT
        go_upto_region 9 with (
          go_at_call 52
          refine (HC.out _ HT2.out.rd).mono ?_
          rintro e w3 ⟨rfl, hr3, hk3⟩
          have HT3 := Lib.hid (HT2.out.next hr3 hk3)
          have hc3 : w3.cell? ⟨X, 3, none⟩ = some (.int .i64 0) := HT3.out.row.cell 3
          have hz3 := HT3.out.row.frozen 3
          clear hr3 hk3)
        have HT4 : Hid (Tki base g X none 0 ⟨6, 0, [], l, 0⟩ s2 w (w3.setCell ⟨X, 3, none⟩ (.int .i64 l))) := Lib.hid (HT3.out.set rfl)
        generalize w3.setCell ⟨X, 3, none⟩ (.int .i64 l) = W4 at HT4 ⊢
        clear hc3 hz3 hk0 hbx HT3
        have hbx := HT4.out.box.cell
        go_upto_region 10 with (
          go_at_call 50
          refine (HC2.out _ HT4.out.rd).mono ?_
          rintro e w5 ⟨rfl, hr5, hk5⟩
          have HT5 := Lib.hid (HT4.out.next hr5 hk5)
          have hc5 : w5.cell? ⟨X, 4, none⟩ = some (.int .i64 0) := HT5.out.row.cell 4
          have hz5 := HT5.out.row.frozen 4
          clear hr5 hk5)
        have HT6 : Hid (Tki base g X none 0 ⟨6, 0, [], l, bb⟩ s3 w (w5.setCell ⟨X, 4, none⟩ (.int .i64 bb))) := Lib.hid (HT5.out.set rfl)
        generalize w5.setCell ⟨X, 4, none⟩ (.int .i64 bb) = W6 at HT6 ⊢
        clear hc5 hz5 hbx HT5 HT4
        have c0 := HT6.out.row.cell 0
        have c1 := HT6.out.row.cell 1
        have c2 := HT6.out.row.cell 2
        have c3 := HT6.out.row.cell 3
        have c4 := HT6.out.row.cell 4
        rw [(dv_get _ _ _ _).1] at c0
        rw [(dv_get _ _ _ _).2.1] at c1
        rw [(dv_get _ _ _ _).2.2.1] at c2
        rw [(dv_get _ _ _ _).2.2.2.1] at c3
        rw [(dv_get _ _ _ _).2.2.2.2] at c4
        simp only at c0 c1 c2 c3 c4
        have r0 := HT6.out.res.cell 0
        have f0 := HT6.out.res.frozen 0
        have r1 := HT6.out.res.cell 1
        have f1 := HT6.out.res.frozen 1
        have r2 := HT6.out.res.cell 2
        have f2 := HT6.out.res.frozen 2
        have r3 := HT6.out.res.cell 3
        have f3 := HT6.out.res.frozen 3
        have r4 := HT6.out.res.cell 4
        have f4 := HT6.out.res.frozen 4
        simp only [List.getElem?_toArray, List.getElem?_cons_zero, List.getElem?_cons_succ] at r0 r1 r2 r3 r4
        have hne : w.heap.size + 1 ≠ X := by have := HXL.out; omega
        go_wp2_with fail
        refine bodyPost_ret (v := .agg #[.int .u8 6, .int .i64 0, .slice none 0 0, .int .i64 l, .int .i64 bb]) ?_ rfl ?_
        · exact results_cell_row rfl _ _ (w.heap.size + 1) 31 _ (0, 0) _ rfl (put5 HT6.out.res _ _ _ _ _) Try.underlying31 rfl (by kernel_rfl)
        · rw [HE.out]
          exact HT6.out.got (keeps5 _ _ _ _ _ _ _) rfl ⟨.inl rfl, rfl, by omega⟩ (by omega) (fun _ _ h => by cases h) (fun h => absurd h (by omega))
      · have hn6 : (k == 6) = false := by simpa using h6
        have HE : Hid (T = (⟨k, 0, [], 0, 0⟩, s1)) := by
          have := HT.out
          rw [if_neg h1, if_neg h3, if_neg h6] at this
          exact this
        clear HT
        go_upto_region 10 with fail
        clear hk0
        have c0 := HT2.out.row.cell 0
        have c1 := HT2.out.row.cell 1
        have c2 := HT2.out.row.cell 2
        have c3 := HT2.out.row.cell 3
        have c4 := HT2.out.row.cell 4
        rw [(dv_get _ _ _ _).1] at c0
        rw [(dv_get _ _ _ _).2.1] at c1
        rw [(dv_get _ _ _ _).2.2.1] at c2
        rw [(dv_get _ _ _ _).2.2.2.1] at c3
        rw [(dv_get _ _ _ _).2.2.2.2] at c4
        simp only at c0 c1 c2 c3 c4
        have r0 := HT2.out.res.cell 0
        have f0 := HT2.out.res.frozen 0
        have r1 := HT2.out.res.cell 1
        have f1 := HT2.out.res.frozen 1
        have r2 := HT2.out.res.cell 2
        have f2 := HT2.out.res.frozen 2
        have r3 := HT2.out.res.cell 3
        have f3 := HT2.out.res.frozen 3
        have r4 := HT2.out.res.cell 4
        have f4 := HT2.out.res.frozen 4
        simp only [List.getElem?_toArray, List.getElem?_cons_zero, List.getElem?_cons_succ] at r0 r1 r2 r3 r4
        have hne : w.heap.size + 1 ≠ X := by have := HXL.out; omega
        go_wp2_with fail
        refine bodyPost_ret (v := .agg #[.int .u8 k, .int .i64 0, .slice none 0 0, .int .i64 0, .int .i64 0]) ?_ rfl ?_
        · exact results_cell_row rfl _ _ (w.heap.size + 1) 31 _ (0, 0) _ rfl (put5 HT2.out.res _ _ _ _ _) Try.underlying31 rfl (by kernel_rfl)
        · rw [HE.out]
          exact HT2.out.got (keeps5 _ _ _ _ _ _ _) rfl ⟨.inl rfl, rfl, by omega⟩ (by omega) (fun _ _ h => by cases h) (fun h => absurd h (by omega))
end Go.Proofs.Ytankkadfaokaoaa.Ds
