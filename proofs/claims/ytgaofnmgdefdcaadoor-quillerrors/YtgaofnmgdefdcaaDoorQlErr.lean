/- The walk of QuillErrors: any ways, any number, any bytes. The condition: strconv's table of tens reads as its text lays it. -/
import Derived.Test.YtgaofnmgdefdcaaDoorJQlGetAwake10
import Derived.Test.YtgaofnmgdefdcaaDoorQlArr
import Derived.Deep.CutRange
namespace Go.Proofs.YtgaofnmgdefdcaaDoor.Qu
open Go.RowKit Go.Proofs.YtgaofnmgdefdcaaDoor.Ww Go.Proofs.YtgaofnmgdefdcaaDoor.Gen Go.Proofs.YtgaofnmgdefdcaaDoor.Mp Go.Proofs.YtgaofnmgdefdcaaDoor.Cm Go.Proofs.YtgaofnmgdefdcaaDoor.Hr Go.Proofs.YtgaofnmgdefdcaaDoor.Hn Go.Proofs.YtgaofnmgdefdcaaDoor.Bp Go.Proofs.YtgaofnmgdefdcaaDoor.Ds Go.Proofs.YtgaofnmgdefdcaaDoor.Ky Go.Proofs.YtgaofnmgdefdcaaDoor.Qh Go.Proofs.YtgaofnmgdefdcaaDoor.Qs Go.Proofs.YtgaofnmgdefdcaaDoor.Qf Go.Proofs.YtgaofnmgdefdcaaDoor.Qc Go.Proofs.YtgaofnmgdefdcaaDoor.Qi Go.Proofs.YtgaofnmgdefdcaaDoor.Qk

theorem Tab_up {B B' : Nat} {w : World} (h : Tab B w) (hB : B ≤ B') : Tab B' w := fun w' hb => h w' (hb.mono hB)
/-- A Quill into which nothing was put. -/
def Empty (k B g : Nat) (w0 w : World) : Prop := ∃ F G N, N ≤ k ∧ Ql F B g [] G N w ∧ cont G = (fun _ => none) ∧ Step (fun _ => False) F w0 w
theorem Empty.keeps {k B g : Nat} {w0 w : World} (h : Empty k B g w0 w) : Keeps (fun _ => False) w0 w := by
  obtain ⟨F, G, N, _, _, _, h⟩ := h
  exact h.keeps
theorem cont_none {G : Gs} (h : cont G = fun _ => none) (i : Nat) : G i = none := by
  have := congrFun h i
  simpa [cont] using this
theorem had_none {G : Gs} (h : cont G = fun _ => none) (i : Nat) : had G i = [] := by simp [had, cont_none h i]
theorem bnums_none {G : Gs} (h : cont G = fun _ => none) : bnums G = [] := by
  unfold bnums
  rw [List.filter_eq_nil_iff]
  intro i _
  simp [cont_none h i]
/-- A way that may not be: nothing is put. -/
theorem Empty.int {k B g n c : Nat} {A : Option Addr} {d : D} {x : Int} {w0 w : World} (h1 : Empty k B g w0 w) (hk : k ≤ 1000) (ht : Tab B w) (hB : B ≤ w.heap.size)
    (hL : Ents w A n d.L) (hf : ∀ y ∈ d.L, Fits y) (hE : 0 < n → ∀ b o, A = some ⟨b, o, none⟩ → b < w0.heap.size) (hx : (Lit.int .i64 x).wf = true) (hd : chkI d ≠ 0) :
    Calls Tryd.prog 9 #[.pointer (some ⟨g, 0, none⟩), .agg (dv A n c d), .int .i64 x] w fun r w' => r = .returned (.int .i64 (chkI d)) ∧ Empty (k + 1) B g w0 w' := by
  obtain ⟨F, G, N, hN, hq, hc, hs⟩ := h1
  refine (int_ B g F [] G N A n c d x w ht hB hq (by omega) (by simp) (fun i => by rw [had_none hc]; simp) hL hf (fun h0 b o e hFb => ?_) hx).mono ?_
  · rcases hs.sub b hFb with h2 | h2
    · exact h2
    · have := hE h0 b o e
      omega
  · rintro r w' ⟨F', G', rfl, hq', hc', hs'⟩
    have e : pInt d x ([], cont G) = (chkI d, ([], cont G)) := by unfold pInt; rw [if_neg hd]
    rw [e] at hq' hc' ⊢
    exact ⟨rfl, F', G', N + 1, by omega, hq', hc'.trans hc, hs.trans hs'⟩
theorem Empty.arr {k B g n c m c2 : Nat} {A A2 : Option Addr} {a : E} {bs : List Int} {w0 w : World} (h1 : Empty k B g w0 w) (hk : k ≤ 1000) (ht : Tab B w) (hB : B ≤ w.heap.size)
    (hL : Ents w A n a.d.L) (hf : ∀ y ∈ a.d.L, Fits y) (hE : 0 < n → ∀ b o, A = some ⟨b, o, none⟩ → b < w0.heap.size) (hS : 0 ≤ a.S ∧ a.S < 256)
    (hm : bs.length = m) (hm1 : m ≤ 1000) (h02 : A2 = none → c2 = 0) (hl : Lies w A2 bs) (hby : ∀ y ∈ bs, 0 ≤ y ∧ y < 256) (hE2 : bs ≠ [] → ∀ b o, A2 = some ⟨b, o, none⟩ → b < w0.heap.size) (hd : chkA a ≠ 0) :
    Calls Tryd.prog 10 #[.pointer (some ⟨g, 0, none⟩), .agg (av A n c a), .slice A2 m c2] w fun r w' => r = .returned (.int .i64 (chkA a)) ∧ Empty (k + 1) B g w0 w' := by
  obtain ⟨F, G, N, hN, hq, hc, hs⟩ := h1
  refine (array_ B g F [] G N A n c a A2 m c2 bs w ht hB hq (by omega) (by simp) (fun i => by rw [had_none hc]; simp; omega) hL hf (fun h0 b o e hFb => ?_) hS hm h02 hl hby (fun h0 b o e hFb => ?_)).mono ?_
  · rcases hs.sub b hFb with h2 | h2
    · exact h2
    · have := hE h0 b o e
      omega
  · rcases hs.sub b hFb with h2 | h2
    · exact h2
    · have := hE2 h0 b o e
      omega
  · rintro r w' ⟨F', G', rfl, hq', hc', hs'⟩
    have e : pArr a bs ([], cont G) = (chkA a, ([], cont G)) := by unfold pArr; rw [if_neg hd]
    rw [e] at hq' hc' ⊢
    exact ⟨rfl, F', G', N + 1, by omega, hq', hc'.trans hc, hs.trans hs'⟩
theorem neq_true (e : Int) (h : e ≠ 0) (w : World) : (binOp .neq 32 (.int .i64 e) (.int .i64 0)).run Tryd.prog w = .ok (.bool true) w := by
  have hz : (e != 0) = true := by simpa using h
  simp [go_sem, hz]
theorem neq_same (e : Int) (w : World) : (binOp .neq 32 (.int .i64 e) (.int .i64 e)).run Tryd.prog w = .ok (.bool false) w := by
  simp [go_sem]
theorem packed_nil {n : Nat} {ys : List Int} (h : IsPack [] (ys.map Int.toNat)) (hn : ys.length = n) (hy : ∀ y ∈ ys, 0 ≤ y ∧ y < 256) : n = 0 := by
  have := Bw.packed_one h (show IsPack [] (([] : List Int).map Int.toNat) from ⟨by decide, by decide⟩) hy (by simp)
  rw [← hn, this]
  rfl
theorem Empty.up {k k' B g : Nat} {w0 w : World} (h : Empty k B g w0 w) (hk : k ≤ k') : Empty k' B g w0 w := by
  obtain ⟨F, G, N, hN, h⟩ := h
  exact ⟨F, G, N, Nat.le_trans hN hk, h⟩
theorem Empty.more {k B g : Nat} {w0 w w1 : World} (h : Empty k B g w0 w) (hk : Keeps (fun _ => False) w w1) : Empty k B g w0 w1 := by
  obtain ⟨F, G, N, hN, hq, hc, hs⟩ := h
  exact ⟨F, G, N, hN, hq.more hk, hc, hs.more hk⟩

set_option maxHeartbeats 16000000 in
set_option maxRecDepth 100000 in
theorem errors_ (A A' A2 : Option Addr) (n n' c c' m c2 : Nat) (d : D) (a : E) (bs : List Int) (x : Int) (w : World) (ht : Tab w.heap.size w)
    (hL : n ≤ 100 → Ents w A n d.L) (hL' : n' ≤ 100 → Ents w A' n' a.d.L) (hf : ∀ y ∈ d.L, Fits y) (hf' : ∀ y ∈ a.d.L, Fits y) (hx : (Lit.int .i64 x).wf = true) (hS : 0 ≤ a.S ∧ a.S < 256)
    (hm : bs.length = m) (h02 : A2 = none → c2 = 0) (hl : Lies w A2 bs) (hby : ∀ y ∈ bs, 0 ≤ y ∧ y < 256) :
    Calls Tryd.prog 3 #[.agg (dv A n c d), .agg (av A' n' c' a), .int .i64 x, .slice A2 m c2] w fun r w' => r = .returned (.bool true) ∧ Keeps (fun _ => False) w w' := by
  have HB : Hid (∀ B b o (L : List G) n, Ents w B n L → 0 < n → B = some ⟨b, o, none⟩ → b < w.heap.size) := fun B b o L n h h0 e => by
    subst e
    exact h.lt h0
  have HB2 : Hid (bs ≠ [] → ∀ b o, A2 = some ⟨b, o, none⟩ → b < w.heap.size) := fun h0 b o e => by
    rcases hl with h | ⟨b', o', h, hb, _⟩
    · exact absurd h h0
    · rw [h] at e
      injection e with e
      injection e with e
      omega
  obtain ⟨W, hW⟩ : ∃ W, W = (w.alloc (.cells (dv A n c d) 25)).alloc (.cells (av A' n' c' a) 27) := ⟨_, rfl⟩
  obtain ⟨q0, hq0⟩ : ∃ q0, q0 = w.heap.size := ⟨_, rfl⟩
  obtain ⟨q1, hq1⟩ : ∃ q1, q1 = w.heap.size + 1 := ⟨_, rfl⟩
  have hk1 : Keeps (fun _ => False) w W := by rw [hW]; exact ((Keeps.refl _ _).alloc _).alloc _
  have HX0 : Hid (Blk W q0 25 (dv A n c d)) := by show Blk _ _ _ _; rw [hW, hq0]; exact (Blk.new _ _ _).alloc _
  have HX1 : Hid (Blk W q1 27 (av A' n' c' a)) := by
    show Blk _ _ _ _
    rw [hW, hq1]
    have h := Blk.new (w.alloc (.cells (dv A n c d) 25)) 27 (av A' n' c' a)
    have e : (w.alloc (.cells (dv A n c d) 25)).heap.size = w.heap.size + 1 := by simp
    rw [e] at h
    exact h
  have HK1 := Lib.hid hk1
  have HT : Hid (Tab W.heap.size W) := Tab_up (ht.more (Nat.le_refl _) hk1) hk1.size
  have HAW := Lib.hid (awake W HT.out)
  have HL := Lib.hid hL
  have HL' := Lib.hid hL'
  have HF := Lib.hid hf
  have HF' := Lib.hid hf'
  have HLI := Lib.hid (hl.keeps hk1 fun _ _ _ => id)
  have HBY := Lib.hid hby
  have HMM := Lib.hid hm
  have hmm : bs.length = m := hm
  have HC0 := Lib.hid (fun W2 (h : Ents W2 A n d.L) => check_i A n c d W2 h)
  have HC1 := Lib.hid (fun W2 (h : Ents W2 A' n' a.d.L) => check_a A' n' c' a W2 h)
  have HIN := Lib.hid (fun k B g w0 W2 (h1 : Empty k B g w0 W2) (h2 : k ≤ 1000) (h3 : Tab B W2) (h4 : B ≤ W2.heap.size) (h5 : Ents W2 A n d.L) (h6 : 0 < n → ∀ b o, A = some ⟨b, o, none⟩ → b < w0.heap.size) (h7 : chkI d ≠ 0) => Empty.int (c := c) (x := x) h1 h2 h3 h4 h5 hf h6 hx h7)
  have HAR := Lib.hid (fun k B g w0 W2 (h1 : Empty k B g w0 W2) (h2 : k ≤ 1000) (h3 : Tab B W2) (h4 : B ≤ W2.heap.size) (h5 : Ents W2 A' n' a.d.L) (h6 : 0 < n' → ∀ b o, A' = some ⟨b, o, none⟩ → b < w0.heap.size) (h8 : m ≤ 1000) (h9 : Lies W2 A2 bs) (h10 : bs ≠ [] → ∀ b o, A2 = some ⟨b, o, none⟩ → b < w0.heap.size) (h7 : chkA a ≠ 0) => Empty.arr (c := c') (c2 := c2) h1 h2 h3 h4 h5 hf' h6 hS hm h8 h02 h9 hby h10 h7)
  have HN0 := Lib.hid (fun W2 => int_nil (dv A n c d) x W2)
  have HN1 := Lib.hid (fun W2 => array_nil (av A' n' c' a) A2 m c2 W2)
  obtain ⟨e, he⟩ : ∃ e, chkI d = e := ⟨_, rfl⟩
  obtain ⟨f, hf0⟩ : ∃ f, chkA a = f := ⟨_, rfl⟩
  rw [he] at HC0 HIN
  rw [hf0] at HC1 HAR
  clear hL hL' hf hf' hl hby hm hk1 ht he hf0
  obtain ⟨K, Bl, L, le, bi⟩ := d
  obtain ⟨⟨K1, B1, L1, le1, bi1⟩, K2, B2, S2⟩ := a
  unfold dv at HX0 HC0 HIN HN0 hW ⊢
  unfold av at HX1 HC1 HAR HN1 hW ⊢
  simp only at HX0 HX1 HC0 HC1 HIN HAR HN0 HN1 hW HL HL' ⊢
  have y0 := HX0.out.cell 0
  have y1 := HX0.out.cell 1
  have y2 := HX0.out.cell 2
  have y3 := HX0.out.cell 3
  have y4 := HX0.out.cell 4
  have x0 := HX1.out.cell 0
  have x1 := HX1.out.cell 1
  have x2 := HX1.out.cell 2
  have x3 := HX1.out.cell 3
  have x4 := HX1.out.cell 4
  have x5 := HX1.out.cell 5
  have x6 := HX1.out.cell 6
  have x7 := HX1.out.cell 7
  simp only [List.getElem?_toArray, List.getElem?_cons_zero, List.getElem?_cons_succ] at y0 y1 y2 y3 y4 x0 x1 x2 x3 x4 x5 x6 x7
  go_enter Tryd.func3, Tryd.ntmps3
  go_upto_region 1 with fail
  rw [← hq1, ← hq0, ← hW]
  clear hW hq0 hq1
  go_wp2_with fail
  refine HAW.out.mono ?_
  rintro r w1 ⟨rfl, hk2⟩
  have HK2 := Lib.hid (HK1.out.trans hk2)
  have HX2 := Lib.hid (HX0.out.keeps hk2 id)
  have HX3 := Lib.hid (HX1.out.keeps hk2 id)
  have HT1 := Lib.hid (Tab_up (HT.out.more (Nat.le_refl _) hk2) hk2.size)
  have HLI1 := Lib.hid (HLI.out.keeps hk2 fun _ _ _ => id)
  have HWS := Lib.hid HK2.out.size
  clear hk2 HT HLI HAW HX0 HX1
  have y0 := HX2.out.cell 0
  have y1 := HX2.out.cell 1
  have y2 := HX2.out.cell 2
  have y3 := HX2.out.cell 3
  have y4 := HX2.out.cell 4
  have x0 := HX3.out.cell 0
  have x1 := HX3.out.cell 1
  have x2 := HX3.out.cell 2
  have x3 := HX3.out.cell 3
  have x4 := HX3.out.cell 4
  have x5 := HX3.out.cell 5
  have x6 := HX3.out.cell 6
  have x7 := HX3.out.cell 7
  simp only [List.getElem?_toArray, List.getElem?_cons_zero, List.getElem?_cons_succ] at y0 y1 y2 y3 y4 x0 x1 x2 x3 x4 x5 x6 x7
  by_cases hn : (100 : Int) < (n : Int)
  · go_wp2
    go_ret
    exact ⟨rfl, HK2.out⟩
  by_cases hn' : (100 : Int) < (n' : Int)
  · go_wp2
    go_ret
    exact ⟨rfl, HK2.out⟩
  by_cases hm' : (100 : Int) < (m : Int)
  · go_wp2
    go_ret
    exact ⟨rfl, HK2.out⟩
  have HLD := Lib.hid ((HL.out (by omega)).more HK2.out)
  have HLA := Lib.hid ((HL'.out (by omega)).more HK2.out)
  have HED := Lib.hid (fun h0 b o e => Nat.lt_of_lt_of_le (HB.out A b o L n (HL.out (by omega)) h0 e) HWS.out)
  have HEA := Lib.hid (fun h0 b o e => Nat.lt_of_lt_of_le (HB.out A' b o L1 n' (HL'.out (by omega)) h0 e) HWS.out)
  have HEB := Lib.hid (fun h0 b o e => Nat.lt_of_lt_of_le (HB2.out h0 b o e) HWS.out)
  clear HL HL' HB HB2
  go_wp2_with fail
  refine (new_q w1.heap.size w1 (Nat.le_refl _)).mono ?_
  rintro r w2 ⟨rfl, hq2, hs2⟩
  obtain ⟨B, hBe⟩ : ∃ B, B = w1.heap.size := ⟨_, rfl⟩
  have hem : Empty 0 B B w1 w2 := ⟨_, _, 0, Nat.le_refl _, by rw [hBe]; exact hq2, rfl, hs2⟩
  rw [← hBe] at HT1 ⊢
  have HBE := Lib.hid hBe
  have HTB := Lib.hid HT1.out
  have HA1 := Lib.hid HLA.out
  have HEM := Lib.hid hem
  have hk2 := hem.keeps
  have HBS : Hid (B ≤ w2.heap.size) := by show B ≤ _; rw [hBe]; exact hk2.size
  have HT2 := Lib.hid (HT1.out.more (by rw [hBe]; exact Nat.le_refl _) hk2)
  have HX4 := Lib.hid (HX2.out.keeps hk2 id)
  have HX5 := Lib.hid (HX3.out.keeps hk2 id)
  have HL2 := Lib.hid (HLD.out.more hk2)
  have HA2 := Lib.hid (HLA.out.more hk2)
  have HLI2 := Lib.hid (HLI1.out.keeps hk2 fun _ _ _ => id)
  have HKA := Lib.hid (HK2.out.trans hk2)
  clear hem hk2 hq2 hs2 hBe HLD HLA HT1 y0 y1 y2 y3 y4 x0 x1 x2 x3 x4 x5 x6 x7
  have y0 := HX4.out.cell 0
  have y1 := HX4.out.cell 1
  have y2 := HX4.out.cell 2
  have y3 := HX4.out.cell 3
  have y4 := HX4.out.cell 4
  have x0 := HX5.out.cell 0
  have x1 := HX5.out.cell 1
  have x2 := HX5.out.cell 2
  have x3 := HX5.out.cell 3
  have x4 := HX5.out.cell 4
  have x5 := HX5.out.cell 5
  have x6 := HX5.out.cell 6
  have x7 := HX5.out.cell 7
  simp only [List.getElem?_toArray, List.getElem?_cons_zero, List.getElem?_cons_succ] at y0 y1 y2 y3 y4 x0 x1 x2 x3 x4 x5 x6 x7
  have HG : Hid (∀ W1, Keeps (fun _ => False) w2 W1 → (W1.cell? ⟨q0, 0, none⟩ = some (.int .u8 K) ∧ W1.cell? ⟨q0, 1, none⟩ = some (.int .i64 Bl) ∧ W1.cell? ⟨q0, 2, none⟩ = some (.slice A n c) ∧ W1.cell? ⟨q0, 3, none⟩ = some (.int .i64 le) ∧ W1.cell? ⟨q0, 4, none⟩ = some (.int .i64 bi) ∧
      W1.cell? ⟨q1, 0, none⟩ = some (.int .u8 K1) ∧ W1.cell? ⟨q1, 1, none⟩ = some (.int .i64 B1) ∧ W1.cell? ⟨q1, 2, none⟩ = some (.slice A' n' c') ∧ W1.cell? ⟨q1, 3, none⟩ = some (.int .i64 le1) ∧ W1.cell? ⟨q1, 4, none⟩ = some (.int .i64 bi1) ∧ W1.cell? ⟨q1, 5, none⟩ = some (.int .u8 K2) ∧ W1.cell? ⟨q1, 6, none⟩ = some (.int .i64 B2) ∧ W1.cell? ⟨q1, 7, none⟩ = some (.int .u8 S2))) := by
    intro W1 k
    have h0 := HX4.out.keeps k id
    have h1 := HX5.out.keeps k id
    exact ⟨h0.cell 0, h0.cell 1, h0.cell 2, h0.cell 3, h0.cell 4, h1.cell 0, h1.cell 1, h1.cell 2, h1.cell 3, h1.cell 4, h1.cell 5, h1.cell 6, h1.cell 7⟩
  go_upto_region 7 with fail
  go_region_held3 (fun w' => w'.cell? ⟨q0, 0, none⟩ = some (.int .u8 K) ∧ w'.cell? ⟨q0, 1, none⟩ = some (.int .i64 Bl) ∧ w'.cell? ⟨q0, 2, none⟩ = some (.slice A n c) ∧ w'.cell? ⟨q0, 3, none⟩ = some (.int .i64 le) ∧ w'.cell? ⟨q0, 4, none⟩ = some (.int .i64 bi) ∧
      w'.cell? ⟨q1, 0, none⟩ = some (.int .u8 K1) ∧ w'.cell? ⟨q1, 1, none⟩ = some (.int .i64 B1) ∧ w'.cell? ⟨q1, 2, none⟩ = some (.slice A' n' c') ∧ w'.cell? ⟨q1, 3, none⟩ = some (.int .i64 le1) ∧ w'.cell? ⟨q1, 4, none⟩ = some (.int .i64 bi1) ∧ w'.cell? ⟨q1, 5, none⟩ = some (.int .u8 K2) ∧ w'.cell? ⟨q1, 6, none⟩ = some (.int .i64 B2) ∧ w'.cell? ⟨q1, 7, none⟩ = some (.int .u8 S2)) (go_keep)
    ((first
      | (have H := HC0; go_at_call 7; refine (H.out _ (by exact HL2.out)).mono ?_; rintro r w3 ⟨rfl, hk3'⟩; have hk3 : Keeps (fun _ => False) w2 w3 := hk3'.of_drew; obtain ⟨a0, a1, a2, a3, a4, b0, b1, b2, b3, b4, b5, b6, b7⟩ := HG.out w3 hk3; have HK3 := Lib.hid hk3; clear hk3 hk3' HC0)
      | (have H := HC1; go_at_call 8; refine (H.out _ (HA2.out.more HK3.out)).mono ?_; rintro r w4 ⟨rfl, hk4'⟩; have hk4 : Keeps (fun _ => False) w2 w4 := HK3.out.trans hk4'; obtain ⟨a0', a1', a2', a3', a4', b0', b1', b2', b3', b4', b5', b6', b7'⟩ := HG.out w4 hk4; have HK4 := Lib.hid hk4; clear hk4 hk4' HC1)))
  have HE4 := Lib.hid (HEM.out.more HK4.out)
  have HT4 := Lib.hid (HT2.out.more HBS.out HK4.out)
  have HB4 := Lib.hid (Nat.le_trans HBS.out HK4.out.size)
  have HL4 := Lib.hid (HL2.out.more HK4.out)
  have HA4 := Lib.hid (HA2.out.more HK4.out)
  have HLI4 := Lib.hid (HLI2.out.keeps HK4.out fun _ _ _ => id)
  have HKW := Lib.hid HK2.out
  clear HG y0 y1 y2 y3 y4 x0 x1 x2 x3 x4 x5 x6 x7 a0 a1 a2 a3 a4 b0 b1 b2 b3 b4 b5 b6 b7 HEM HT2 HBS HL2 HA2 HLI2
  go_upto_region 8 with fail
  go_cut [57] from 36 to 58 (fun sl wx => sl = .bool false ∧ Empty 2 B B w1 wx)
  case first =>
    by_cases he : e = 0
    · subst he
      by_cases hf : f = 0
      · subst hf
        go_wp2
        go_meet
        exact ⟨rfl, HE4.out.up (by omega)⟩
      · have hf1 : (f != 0) = true := by simpa using hf
        have hff : (f != f) = false := by simp
        have HC := Lib.hid (HAR.out 0 B B w1 w4 HE4.out (by omega) HT4.out HB4.out HA4.out HEA.out (by omega) HLI4.out HEB.out hf)
        go_wp2_with (have H := HC; go_at_call 10; refine H.out.mono ?_; rintro r w5 ⟨rfl, h5⟩; have H5 := Lib.hid h5; clear h5 HC)
        go_meet
        exact ⟨rfl, H5.out.up (by omega)⟩
    · have he1 : (e != 0) = true := by simpa using he
      have hee : (e != e) = false := by simp
      have HC := Lib.hid (HIN.out 0 B B w1 w4 HE4.out (by omega) HT4.out HB4.out HL4.out HED.out he)
      go_wp2_with fail
      refine HC.out.mono ?_
      rintro r w5 ⟨rfl, h5⟩
      have H5 := Lib.hid h5
      clear h5 HC
      by_cases hf : f = 0
      · subst hf
        go_wp2
        go_meet
        exact ⟨rfl, H5.out.up (by omega)⟩
      · have hf1 : (f != 0) = true := by simpa using hf
        have hff : (f != f) = false := by simp
        have hk15 := H5.out.keeps
        have hx3 := HX3.out.keeps hk15 id
        obtain ⟨x0, x1, x2, x3, x4, x5, x6, x7⟩ : w5.cell? ⟨q1, 0, none⟩ = some (.int .u8 K1) ∧ w5.cell? ⟨q1, 1, none⟩ = some (.int .i64 B1) ∧ w5.cell? ⟨q1, 2, none⟩ = some (.slice A' n' c') ∧ w5.cell? ⟨q1, 3, none⟩ = some (.int .i64 le1) ∧ w5.cell? ⟨q1, 4, none⟩ = some (.int .i64 bi1) ∧ w5.cell? ⟨q1, 5, none⟩ = some (.int .u8 K2) ∧ w5.cell? ⟨q1, 6, none⟩ = some (.int .i64 B2) ∧ w5.cell? ⟨q1, 7, none⟩ = some (.int .u8 S2) := ⟨hx3.cell 0, hx3.cell 1, hx3.cell 2, hx3.cell 3, hx3.cell 4, hx3.cell 5, hx3.cell 6, hx3.cell 7⟩
        have HB5 : Hid (B ≤ w5.heap.size) := by
          have h1 := hk15.size
          have h2 := HBE.out
          show B ≤ _
          omega
        have HT5 := Lib.hid (HTB.out.more (by rw [HBE.out]; exact Nat.le_refl _) hk15)
        have HC2 := Lib.hid (HAR.out 1 B B w1 w5 H5.out (by omega) HT5.out HB5.out (HA1.out.more hk15) HEA.out (by omega) (HLI1.out.keeps hk15 fun _ _ _ => id) HEB.out hf)
        clear hk15 hx3
        go_wp2_with (have H := HC2; go_at_call 10; refine H.out.mono ?_; rintro r w6 ⟨rfl, h6⟩; have H6 := Lib.hid h6; clear h6 HC2)
        go_meet
        exact ⟨rfl, H6.out⟩
  case rest =>
    obtain ⟨rfl, F, G, N, hN, hq, hc, hs⟩ := hcut
    have hk := hs.keeps
    have hx2 := HX2.out.keeps hk id
    have hx3 := HX3.out.keeps hk id
    have HX2c := Lib.hid hx2
    have HX3c := Lib.hid hx3
    have HGL : Hid (∀ W1, Keeps (fun _ => False) wc W1 → (W1.cell? ⟨q0, 0, none⟩ = some (.int .u8 K) ∧ W1.cell? ⟨q0, 1, none⟩ = some (.int .i64 Bl) ∧ W1.cell? ⟨q0, 2, none⟩ = some (.slice A n c) ∧ W1.cell? ⟨q0, 3, none⟩ = some (.int .i64 le) ∧ W1.cell? ⟨q0, 4, none⟩ = some (.int .i64 bi) ∧
        W1.cell? ⟨q1, 0, none⟩ = some (.int .u8 K1) ∧ W1.cell? ⟨q1, 1, none⟩ = some (.int .i64 B1) ∧ W1.cell? ⟨q1, 2, none⟩ = some (.slice A' n' c') ∧ W1.cell? ⟨q1, 3, none⟩ = some (.int .i64 le1) ∧ W1.cell? ⟨q1, 4, none⟩ = some (.int .i64 bi1) ∧ W1.cell? ⟨q1, 5, none⟩ = some (.int .u8 K2) ∧ W1.cell? ⟨q1, 6, none⟩ = some (.int .i64 B2) ∧ W1.cell? ⟨q1, 7, none⟩ = some (.int .u8 S2))) := by
      intro W1 k
      have h0 := HX2c.out.keeps k id
      have h1 := HX3c.out.keeps k id
      exact ⟨h0.cell 0, h0.cell 1, h0.cell 2, h0.cell 3, h0.cell 4, h1.cell 0, h1.cell 1, h1.cell 2, h1.cell 3, h1.cell 4, h1.cell 5, h1.cell 6, h1.cell 7⟩
    have HBL := Lib.hid (blocks_ B B F [] G N wc hq)
    have HRW := Lib.hid (fun W2 (k : Keeps (fun _ => False) wc W2) => row_ B B F [] G N W2 (hq.more k) (by simp))
    have HBN : Hid ((bnums G).length = 0) := by show (bnums G).length = 0; rw [bnums_none hc]; rfl
    have HKC := Lib.hid (HKW.out.trans hk)
    have HBKN := Lib.hid (fun W2 => block_nil x W2)
    have HRN := Lib.hid (fun W2 => row_nil W2)
    have HBSN := Lib.hid (fun W2 => blocks_nil W2)
    clear hq hc hs hk hx2 hx3
    go_wp2_with fail
    refine HBL.out.mono ?_
    rintro r w5 ⟨A5, c5, n5, rfl, hn5, ho5, hk5⟩
    obtain rfl : n5 = 0 := (hn5.symm.trans HBN.out)
    have HK5 := Lib.hid hk5
    have HRR := Lib.hid (HRW.out w5 hk5)
    clear hn5 ho5 hk5
    go_wp2_with fail
    refine HRR.out.mono ?_
    rintro r w6 ⟨A6, c6, ys, n6, hn6, rfl, hpk, hby6, hv6, hk6⟩
    obtain rfl := packed_nil hpk hn6 hby6
    have HK6 := Lib.hid (HK5.out.trans hk6)
    obtain ⟨y0, y1, y2, y3, y4, x0, x1, x2, x3, x4, x5, x6, x7⟩ := HGL.out w6 HK6.out
    clear hn6 hpk hby6 hv6 hk6
    go_wp2_with fail
    refine (HN0.out w6).mono ?_
    rintro r w7 ⟨rfl, hk7⟩
    have HK7 := Lib.hid (HK6.out.trans hk7)
    obtain ⟨z0, z1, z2, z3, z4, u0, u1, u2, u3, u4, u5, u6, u7⟩ := HGL.out w7 HK7.out
    clear hk7 y0 y1 y2 y3 y4 x0 x1 x2 x3 x4 x5 x6 x7
    go_wp2_with fail
    refine (HN1.out w7).mono ?_
    rintro r w8 ⟨rfl, hk8⟩
    have HK8 := Lib.hid (HK7.out.trans hk8)
    clear hk8 z0 z1 z2 z3 z4 u0 u1 u2 u3 u4 u5 u6 u7
    go_wp2_with (first
      | (go_at_call 11; refine (HBSN.out _).mono ?_; rintro r w9 ⟨rfl, rfl⟩)
      | (go_at_call 13; refine (HBKN.out _).mono ?_; rintro r w9 ⟨rfl, rfl⟩)
      | (go_at_call 12; refine (HRN.out _).mono ?_; rintro r w9 ⟨rfl, rfl⟩))
    go_ret
    exact ⟨rfl, HKC.out.trans HK8.out⟩
end Go.Proofs.YtgaofnmgdefdcaaDoor.Qu
