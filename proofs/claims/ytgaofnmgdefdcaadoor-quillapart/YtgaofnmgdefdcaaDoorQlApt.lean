/- The walk of QuillApart: any numbers, any acts, any ways. The condition: strconv's table of tens reads as its text lays it. -/
import Derived.Test.YtgaofnmgdefdcaaDoorJQlGetAwake10
import Derived.Test.YtgaofnmgdefdcaaDoorJQlInAnyInv
import Derived.Deep.CutRange
import Derived.Deep.CutBlock
import Derived.Deep.RegionHeld3
namespace Go.Proofs.YtgaofnmgdefdcaaDoor.Qn
open Go.RowKit Go.Proofs.YtgaofnmgdefdcaaDoor.Gen Go.Proofs.YtgaofnmgdefdcaaDoor.Hr Go.Proofs.YtgaofnmgdefdcaaDoor.Hn Go.Proofs.YtgaofnmgdefdcaaDoor.Ds Go.Proofs.YtgaofnmgdefdcaaDoor.Ky Go.Proofs.YtgaofnmgdefdcaaDoor.Ib Go.Proofs.YtgaofnmgdefdcaaDoor.It Go.Proofs.YtgaofnmgdefdcaaDoor.Wr Go.Proofs.YtgaofnmgdefdcaaDoor.Bp Go.Proofs.YtgaofnmgdefdcaaDoor.Qh Go.Proofs.YtgaofnmgdefdcaaDoor.Qs Go.Proofs.YtgaofnmgdefdcaaDoor.Qc Go.Proofs.YtgaofnmgdefdcaaDoor.Qi Go.Proofs.YtgaofnmgdefdcaaDoor.Qu

theorem Tab_rise {B B' : Nat} {w : World} (h : Tab B w) (hB : B ≤ B') : Tab B' w := fun w' hb => h w' (hb.mono hB)
theorem packed_nil {n : Nat} {ys : List Int} (h : IsPack [] (ys.map Int.toNat)) (hn : ys.length = n) (hy : ∀ y ∈ ys, 0 ≤ y ∧ y < 256) : n = 0 := by
  have := Bw.packed_one h (show IsPack [] (([] : List Int).map Int.toNat) from ⟨by decide, by decide⟩) hy (by simp)
  rw [← hn, this]
  rfl
/-- What block 60000 has behind a number. -/
def nx (x : Int) (X : Option (List Int)) : Option (List Int) := if x < -2147483647 ∨ 2147483647 < x then X else some (X.getD [] ++ encInt (sg x))
theorem pInt60 (x : Int) (l : List Nat) (f : Nat → Option (List Int)) : (pInt ⟨1, 60000, [], 0, 0⟩ x (l, f)).2.1 = l ∧ (pInt ⟨1, 60000, [], 0, 0⟩ x (l, f)).2.2 = fun i => if i = 60000 then nx x (f 60000) else f i := by
  have h : chkI ⟨1, 60000, [], 0, 0⟩ = 0 := by decide
  unfold pInt
  rw [if_pos h]
  unfold putN nx
  by_cases hx : x < -2147483647 ∨ 2147483647 < x
  · rw [if_pos hx]
    refine ⟨rfl, funext fun i => ?_⟩
    rw [if_pos hx]
    split
    · rename_i hi
      rw [hi]
    · rfl
  · rw [if_neg hx, if_pos rfl]
    refine ⟨rfl, funext fun i => ?_⟩
    rw [if_neg hx]
    rfl
/-- A way whose blocks lie below 101. -/
def low (s : Sm) : Sm := { s with B := s.B % 100 }
theorem low_ok {s : Sm} (h : s.ok) : (low s).ok := ⟨h.K, h.bi, by have := h.B; show 0 ≤ s.B % 100 ∧ s.B % 100 < 65536; omega, h.le, h.S⟩
theorem low_I (s : Sm) (h : s.ok) : (low s).I.K = 1 → (low s).I.B.toNat ≠ 60000 := by
  intro _
  unfold Sm.I low
  simp only
  have := h.B
  split
  · show (1 + s.B % 100 % 60000).toNat ≠ 60000
    omega
  · split
    · show (0 : Int).toNat ≠ 60000
      decide
    · show (0 : Int).toNat ≠ 60000
      decide
theorem low_A (s : Sm) (h : s.ok) : (low s).A.B.toNat ≠ 60000 ∧ ((low s).A.d.K = 1 → (low s).A.d.B.toNat ≠ 60000) := by
  have hI := low_I s h
  have := h.B
  unfold Sm.A
  split
  · refine ⟨?_, fun h => ?_⟩
    · show (1 + s.B % 100 % 60000).toNat ≠ 60000
      omega
    · simp [D0] at h
  · refine ⟨?_, hI⟩
    show (1 + s.B % 100 % 60000).toNat ≠ 60000
    omega
/-- Between two deeds: two Quills apart from each other; what block 60000 of each has. -/
structure Mid (w0 : World) (p q bd a b : Nat) (X1 X2 : Option (List Int)) (w : World) : Prop where
  ex : ∃ F1 F2 G1 G2 N1 N2 l2, Ql F1 w0.heap.size p [] G1 N1 w ∧ Ql F2 w0.heap.size q l2 G2 N2 w ∧ (∀ k, F1 k → ¬ F2 k) ∧ (¬ F1 bd ∧ ¬ F2 bd) ∧
    cont G1 = (fun i => if i = 60000 then X1 else none) ∧ cont G2 60000 = X2 ∧ N1 ≤ a ∧ N2 ≤ b ∧ l2.length ≤ 100 * b ∧ (∀ i, (had G1 i).length ≤ 10 * a) ∧ ∀ i, (had G2 i).length ≤ 300 * b
  box : Blk w bd 25 #[.int .u8 1, .int .i64 60000, .slice none 0 0, .int .i64 0, .int .i64 0]
  keeps : Keeps (w0.heap.size ≤ ·) w0 w
section
variable {w0 w w1 wb : World} {p q bd a b n c m c2 : Nat} {X1 X2 : Option (List Int)} {A A2 : Option Addr}
theorem Mid.more (h : Mid w0 p q bd a b X1 X2 w) (k : Keeps (fun _ => False) w w1) : Mid w0 p q bd a b X1 X2 w1 := by
  obtain ⟨⟨F1, F2, G1, G2, N1, N2, l2, h1, h2, hr⟩, hb, hk⟩ := h
  exact ⟨⟨F1, F2, G1, G2, N1, N2, l2, h1.more k, h2.more k, hr⟩, hb.keeps k id, hk.trans (k.mono fun _ _ hf => hf.elim)⟩
theorem Mid.up {b' : Nat} (h : Mid w0 p q bd a b X1 X2 w) (hb : b ≤ b') : Mid w0 p q bd a b' X1 X2 w := by
  obtain ⟨⟨F1, F2, G1, G2, N1, N2, l2, h1, h2, h3, h4, h5, h6, h7, h8, h9, h10, h11⟩, hb, hk⟩ := h
  exact ⟨⟨F1, F2, G1, G2, N1, N2, l2, h1, h2, h3, h4, h5, h6, h7, by omega, by omega, h10, fun i => by have := h11 i; omega⟩, hb, hk⟩
theorem Mid.tab (h : Mid w0 p q bd a b X1 X2 w) (ht : Tab w0.heap.size w0) : Tab w0.heap.size w := ht.keeps (Nat.le_refl _) h.keeps fun _ => id
theorem nx_len (x : Int) (X : Option (List Int)) : ((nx x X).getD []).length ≤ (X.getD []).length + 10 := by
  unfold nx
  split
  · omega
  · have := (encInt_len (sg x)).2
    simp only [Option.getD_some, List.length_append]
    omega
theorem Mid.int_p (h : Mid w0 p q bd a b X1 X2 w) (ht : Tab w0.heap.size w0) (ha : a ≤ 100) {x : Int} (hx : (Lit.int .i64 x).wf = true) :
    Calls Tryd.prog 9 #[.pointer (some ⟨p, 0, none⟩), .agg #[.int .u8 1, .int .i64 60000, .slice none 0 0, .int .i64 0, .int .i64 0], .int .i64 x] w fun r w' => (∃ e, r = .returned (.int .i64 e)) ∧ Mid w0 p q bd (a + 1) b (nx x X1) X2 w' := by
  have htw := h.tab ht
  obtain ⟨⟨F1, F2, G1, G2, N1, N2, l2, h1, h2, h3, h4, h5, h6, h7, h8, h9, h10, h11⟩, hb, hk⟩ := h
  refine (int_ w0.heap.size p F1 [] G1 N1 none 0 0 ⟨1, 60000, [], 0, 0⟩ x w htw hk.size h1 (by omega) (by simp) (fun i => by have := h10 i; omega) ⟨.inl rfl, rfl, by omega⟩ (by simp) (by simp) hx).mono ?_
  rintro r w' ⟨F', G', rfl, hq', hc', hs'⟩
  obtain ⟨e1, e2⟩ := pInt60 x [] (cont G1)
  rw [e1] at hq'
  have hcc : cont G' = fun i => if i = 60000 then nx x X1 else none := by
    rw [hc', e2]
    funext i
    rw [h5]
    simp only
    split
    · rfl
    · rename_i hi
      rfl
  refine ⟨⟨_, rfl⟩, ⟨F', F2, G', G2, N1 + 1, N2, l2, hq', h2.keeps hs'.keeps fun k hk hf => h3 k hf hk, fun k hk hf => ?_, ⟨fun e => ?_, h4.2⟩, hcc, h6, by omega, h8, h9, fun i => ?_, h11⟩, hb.keeps hs'.keeps h4.1, hk.trans (hs'.keeps.mono fun k _ hf => h1.low k hf)⟩
  · rcases hs'.sub k hk with h | h
    · exact h3 k h hf
    · have := h2.lt k hf
      omega
  · rcases hs'.sub bd e with h | h
    · exact h4.1 h
    · have := hb.lt
      omega
  · rw [had_cont, hcc]
    unfold hadP
    simp only
    split
    · have h12 := h10 60000
      rw [had_cont, h5] at h12
      unfold hadP at h12
      simp only [if_true] at h12
      have := nx_len x X1
      omega
    · simp
theorem Mid.int_d (h : Mid w0 p q bd a b X1 X2 wb) (k : Keeps (fun _ => False) wb w) (ht : Tab w0.heap.size w0) (hb' : b ≤ 300) {d : D} {x : Int} (hx : (Lit.int .i64 x).wf = true) (hL : Ents w A n d.L) (hf : ∀ y ∈ d.L, Fits y) (hE : 0 < n → ∀ b o, A = some ⟨b, o, none⟩ → wb.heap.size ≤ b) {X' : Option (List Int)}
    (hX : ∀ s : St, s.2 60000 = X2 → (pInt d x s).2.2 60000 = X') :
    Calls Tryd.prog 9 #[.pointer (some ⟨q, 0, none⟩), .agg (dv A n c d), .int .i64 x] w fun r w' => (∃ e, r = .returned (.int .i64 e)) ∧ Mid w0 p q bd a (b + 1) X1 X' w' ∧ ∀ g, wb.heap.size ≤ g → g < w.heap.size → ∀ i, w'.cell? ⟨g, i, none⟩ = w.cell? ⟨g, i, none⟩ := by
  have htw := (h.more k).tab ht
  obtain ⟨⟨F1, F2, G1, G2, N1, N2, l2, h1, h2, h3, h4, h5, h6, h7, h8, h9, h10, h11⟩, hb, hk⟩ := h
  have hk' : Keeps (w0.heap.size ≤ ·) w0 w := hk.trans (k.mono fun _ _ hf => hf.elim)
  refine (int_ w0.heap.size q F2 l2 G2 N2 A n c d x w htw hk'.size (h2.more k) (by omega) (by omega) (fun i => by have := h11 i; omega) hL hf (fun h0 b o e hf => by have := hE h0 b o e; have := h2.lt b hf; omega) hx).mono ?_
  rintro r w' ⟨F', G', rfl, hq', hc', hs'⟩
  obtain ⟨e1, e2⟩ := pInt_len d x (l2, cont G2)
  refine ⟨⟨_, rfl⟩, ⟨⟨F1, F', G1, G', N1, N2 + 1, _, (h1.more k).keeps hs'.keeps h3, hq', fun k' hk hf => ?_, ⟨h4.1, fun e => ?_⟩, h5, ?_, h7, by omega, ?_, h10, fun i => ?_⟩, (hb.keeps k id).keeps hs'.keeps h4.2, hk'.trans (hs'.keeps.mono fun k _ hf => h2.low k hf)⟩, fun g hg1 hg2 i => hs'.keeps.cell (p := ⟨g, i, none⟩) hg2 fun hf => by have := h2.lt g hf; omega⟩
  · rcases hs'.sub k' hf with h | h
    · exact h3 k' hk h
    · have := (h1.more k).lt k' hk
      omega
  · rcases hs'.sub bd e with h | h
    · exact h4.2 h
    · have := (hb.keeps k id).lt
      omega
  · rw [hc']
    exact hX _ h6
  · simp only at e1
    omega
  · rw [had_cont, hc']
    have := e2 i
    have h12 := h11 i
    rw [had_cont] at h12
    simp only at this
    omega
theorem Mid.arr (h : Mid w0 p q bd a b X1 X2 wb) (k : Keeps (fun _ => False) wb w) (ht : Tab w0.heap.size w0) (hb' : b ≤ 300) {d : E} {bs : List Int} (hL : Ents w A n d.d.L) (hf : ∀ y ∈ d.d.L, Fits y) (hE : 0 < n → ∀ b o, A = some ⟨b, o, none⟩ → wb.heap.size ≤ b) (hS : 0 ≤ d.S ∧ d.S < 256)
    (hm : bs.length = m) (hm1 : m ≤ 100) (h02 : A2 = none → c2 = 0) (hl : Lies w A2 bs) (hby : ∀ y ∈ bs, 0 ≤ y ∧ y < 256) (hE2 : bs ≠ [] → ∀ b o, A2 = some ⟨b, o, none⟩ → b < w0.heap.size) {X' : Option (List Int)}
    (hX : ∀ s : St, s.2 60000 = X2 → (pArr d bs s).2.2 60000 = X') :
    Calls Tryd.prog 10 #[.pointer (some ⟨q, 0, none⟩), .agg (av A n c d), .slice A2 m c2] w fun r w' => (∃ e, r = .returned (.int .i64 e)) ∧ Mid w0 p q bd a (b + 1) X1 X' w' ∧ ∀ g, wb.heap.size ≤ g → g < w.heap.size → ∀ i, w'.cell? ⟨g, i, none⟩ = w.cell? ⟨g, i, none⟩ := by
  have htw := (h.more k).tab ht
  obtain ⟨⟨F1, F2, G1, G2, N1, N2, l2, h1, h2, h3, h4, h5, h6, h7, h8, h9, h10, h11⟩, hb, hk⟩ := h
  have hk' : Keeps (w0.heap.size ≤ ·) w0 w := hk.trans (k.mono fun _ _ hf => hf.elim)
  refine (array_ w0.heap.size q F2 l2 G2 N2 A n c d A2 m c2 bs w htw hk'.size (h2.more k) (by omega) (by omega) (fun i => by have := h11 i; omega) hL hf (fun h0 b o e hf => by have := hE h0 b o e; have := h2.lt b hf; omega) hS hm h02 hl hby (fun h0 b o e hf => by have := hE2 h0 b o e; have := h2.low b hf; omega)).mono ?_
  rintro r w' ⟨F', G', rfl, hq', hc', hs'⟩
  obtain ⟨e1, e2⟩ := pArr_len d bs (l2, cont G2)
  refine ⟨⟨_, rfl⟩, ⟨⟨F1, F', G1, G', N1, N2 + 1, _, (h1.more k).keeps hs'.keeps h3, hq', fun k' hk hf => ?_, ⟨h4.1, fun e => ?_⟩, h5, ?_, h7, by omega, ?_, h10, fun i => ?_⟩, (hb.keeps k id).keeps hs'.keeps h4.2, hk'.trans (hs'.keeps.mono fun k _ hf => h2.low k hf)⟩, fun g hg1 hg2 i => hs'.keeps.cell (p := ⟨g, i, none⟩) hg2 fun hf => by have := h2.lt g hf; omega⟩
  · rcases hs'.sub k' hf with h | h
    · exact h3 k' hk h
    · have := (h1.more k).lt k' hk
      omega
  · rcases hs'.sub bd e with h | h
    · exact h4.2 h
    · have := (hb.keeps k id).lt
      omega
  · rw [hc']
    exact hX _ h6
  · simp only at e1
    omega
  · rw [had_cont, hc']
    have := e2 i
    have h12 := h11 i
    rw [had_cont] at h12
    simp only at this
    omega
theorem Mid.new (hp : Ql (· = p) w0.heap.size p [] (fun _ => none) 0 w1) (hq : Ql (· = q) w0.heap.size q [] (fun _ => none) 0 w1) (hpq : p ≠ q) (hk : Keeps (fun _ => False) w0 w1) :
    Mid w0 p q w1.heap.size 0 0 none none (w1.alloc (.cells #[.int .u8 1, .int .i64 60000, .slice none 0 0, .int .i64 0, .int .i64 0] 25)) := by
  have k := (Keeps.refl (fun _ => False) w1).alloc (.cells #[.int .u8 1, .int .i64 60000, .slice none 0 0, .int .i64 0, .int .i64 0] 25)
  refine ⟨⟨_, _, _, _, 0, 0, [], hp.more k, hq.more k, fun k h e => hpq (h.symm.trans e), ⟨fun e => ?_, fun e => ?_⟩, ?_, rfl, by omega, by omega, by simp, by simp [had], by simp [had]⟩, Blk.new _ _ _, (hk.trans k).mono fun _ _ hf => hf.elim⟩
  · have := hp.lt _ e
    omega
  · have := hq.lt _ e
    omega
  · funext i
    simp [cont]
theorem Mid.all (h : Mid w0 p q bd a b X1 X2 w) (k : Keeps (fun _ => False) wb w0) : Keeps (fun _ => False) wb w := k.trans (h.keeps.mono fun _ h1 h2 => by omega)
end
theorem numOf_wf {N wh : Int} {d : D} (hd : chkI d = 0) (hN : -9223372036854775808 ≤ N ∧ N ≤ 9223372036854775807) : (Lit.int .i64 (numOf N wh d)).wf = true := by
  have hr : -9223372036854775808 ≤ numOf N wh d ∧ numOf N wh d ≤ 9223372036854775807 := by
    unfold numOf
    split
    · exact hN
    · split
      · rename_i h3
        have hw : newE d.L = 0 := by simpa [chkI, h3] using hd
        rcases Nat.lt_or_ge (wh % d.L.length).toNat d.L.length with h | h
        · have := newE_in hw (d.L.getD (wh % d.L.length).toNat (0, 0)) (by rw [List.getD_eq_getElem?_getD, List.getElem?_eq_getElem h]; exact List.getElem_mem h)
          omega
        · rw [List.getD_eq_getElem?_getD, List.getElem?_eq_none h]
          simp
      · split
        · rename_i h6
          rcases chkI_in hd with h | h | h
          · omega
          · omega
          · obtain ⟨b, hb⟩ := Int.eq_ofNat_of_zero_le h.2.2.1
            have h31 : b ≤ 31 := by have := h.2.2.2; omega
            have h0 := Int.emod_nonneg (N % 4294967296) (show (2 : Int) ^ d.bi.toNat ≠ 0 by exact Int.ne_of_gt (Int.pow_pos (by decide)))
            have h1 := Int.emod_lt_of_pos (N % 4294967296) (show (0 : Int) < 4294967296 by decide)
            have h2 : N % 4294967296 % 2 ^ d.bi.toNat ≤ N % 4294967296 := by
              have hp : (0 : Int) < 2 ^ d.bi.toNat := Int.pow_pos (by decide)
              have := Int.emod_nonneg N (show (4294967296 : Int) ≠ 0 by decide)
              have h5 := Int.emod_add_mul_ediv (N % 4294967296) (2 ^ d.bi.toNat)
              have h6 : 0 ≤ 2 ^ d.bi.toNat * (N % 4294967296 / 2 ^ d.bi.toNat) := Int.mul_nonneg (Int.le_of_lt hp) (Int.ediv_nonneg this (Int.le_of_lt hp))
              omega
            have := h.2.1
            omega
        · omega
  have hm : IntKind.i64.min = -9223372036854775808 ∧ IntKind.i64.max = 9223372036854775807 := by decide
  simp [Lit.wf, hm.1, hm.2]
  omega

set_option maxHeartbeats 32000000 in
set_option maxRecDepth 100000 in
theorem apart_ (f : Nat → Int) (fs : Nat → Ac) (fw : Nat → Sm) (fa : Nat → Option Addr) (fc : Nat → Nat) (A0 A1 A2 : Option Addr) (n0 n1 n2 c0 c1 c2 b0 b1 b2 o0 o1 o2 : Nat) (w : World) (ht : Tab w.heap.size w)
    (h0 : 0 < n0 → A0 = some ⟨b0, o0, none⟩ ∧ b0 < w.heap.size) (h0c : ∀ i, i < n0 → w.cell? ⟨b0, o0 + i, none⟩ = some (.int .i32 (f i)) ∧ -2147483648 ≤ f i ∧ f i ≤ 2147483647)
    (h1 : Acts w A1 n1 fs b1 o1) (h2 : Ways w A2 n2 fw fa fc b2 o2) :
    Calls Tryd.prog 4 #[.slice A0 n0 c0, .slice A1 n1 c1, .slice A2 n2 c2] w fun r w' => r = .returned (.bool true) ∧ Keeps (fun _ => False) w w' := by
  have HT := Lib.hid ht
  have H0 := Lib.hid h0
  have H0C := Lib.hid h0c
  have H1 := Lib.hid h1
  have H2 := Lib.hid h2
  have HAW := Lib.hid (awake w ht)
  clear ht h0 h0c h1 h2
  go_enter Tryd.func4, Tryd.ntmps4
  go_wp2_with fail
  refine HAW.out.mono ?_
  rintro r w1 ⟨rfl, hk1⟩
  have HK1 := Lib.hid hk1
  have HT1 := Lib.hid (Tab_rise (HT.out.more (Nat.le_refl _) hk1) hk1.size)
  have HS1 : Hid (w.heap.size ≤ w1.heap.size) := hk1.size
  clear hk1 HAW HT
  by_cases hn0 : (40 : Int) < (n0 : Int)
  · go_wp2
    go_ret
    exact ⟨rfl, HK1.out⟩
  by_cases hn1 : (40 : Int) < (n1 : Int)
  · go_wp2
    go_ret
    exact ⟨rfl, HK1.out⟩
  by_cases hn2 : (n2 : Int) < 1
  · go_wp2
    go_ret
    exact ⟨rfl, HK1.out⟩
  by_cases hn3 : (8 : Int) < (n2 : Int)
  · go_wp2
    go_ret
    exact ⟨rfl, HK1.out⟩
  have HNN : Hid (n0 ≤ 40 ∧ n1 ≤ 40 ∧ 1 ≤ n2 ∧ n2 ≤ 8) := by show _ ∧ _; omega
  go_wp2_with fail
  refine (new_q w1.heap.size w1 (Nat.le_refl _)).mono ?_
  rintro r w2 ⟨rfl, hq2, hs2⟩
  have hk2 : Keeps (fun _ => False) w1 w2 := hs2.keeps
  obtain ⟨p, hp⟩ : ∃ p, p = w1.heap.size := ⟨_, rfl⟩
  have hpl : p < w2.heap.size := by rw [hp]; exact hq2.lt _ rfl
  have HQ2 : Hid (Ql (· = p) w1.heap.size p [] (fun _ => none) 0 w2) := by show Ql _ _ _ _ _ _ _; rw [hp]; exact hq2
  have HK2 := Lib.hid hk2
  rw [← hp]
  clear hq2 hs2 hp
  go_wp2_with fail
  refine (new_q w1.heap.size w2 hk2.size).mono ?_
  rintro r w3 ⟨rfl, hq3, hs3⟩
  obtain ⟨q, hq⟩ : ∃ q, q = w2.heap.size := ⟨_, rfl⟩
  have HM0 : Hid (Mid w1 p q w3.heap.size 0 0 none none (w3.alloc (.cells #[.int .u8 1, .int .i64 60000, .slice none 0 0, .int .i64 0, .int .i64 0] 25))) := by
    rw [← hq] at hq3
    exact Mid.new (HQ2.out.more hs3.keeps) hq3 (by omega) (hk2.trans hs3.keeps)
  obtain ⟨bd, hbd⟩ : ∃ bd, bd = w3.heap.size := ⟨_, rfl⟩
  obtain ⟨W4, hW4⟩ : ∃ W4, W4 = w3.alloc (.cells #[.int .u8 1, .int .i64 60000, .slice none 0 0, .int .i64 0, .int .i64 0] 25) := ⟨_, rfl⟩
  rw [← hbd, ← hW4] at HM0
  rw [← hq]
  clear hq3 hs3 hk2 HQ2 hpl hq HK2
  go_upto_region 7 with fail
  rw [← hbd, ← hW4]
  clear hbd hW4 hn0 hn1 hn2 hn3
  go_wp2
  go_loopw [39] (fun iv wr => ∃ j : Nat, iv = .int .i64 (j : Int) ∧ j ≤ n0 ∧ ∃ X, Hid (Mid w1 p q bd j (2 * j) X X wr)) (fun iv _ => n0 - (intOf iv).toNat)
  case atStart => exact ⟨0, rfl, by omega, none, HM0⟩
  case round =>
    obtain ⟨j, rfl, hj, X, HM⟩ := hrel
    clear HM0
    by_cases hlt : j < n0
    · obtain ⟨hA0, hb0⟩ := H0.out (by omega)
      subst hA0
      obtain ⟨hc0, hl0, hu0⟩ := H0C.out j hlt
      have hKW : Keeps (w1.heap.size ≤ ·) w1 wr := HM.out.keeps
      have hcr : wr.cell? ⟨b0, o0 + j, none⟩ = some (.int .i32 (f j)) := (hKW.cell (p := ⟨b0, o0 + j, none⟩) (by have := HS1.out; show b0 < _; omega) (by have := HS1.out; show ¬ w1.heap.size ≤ b0; omega)).trans ((HK1.out.cell (p := ⟨b0, o0 + j, none⟩) hb0 id).trans hc0)
      obtain ⟨x, hx⟩ : ∃ x, f j = x := ⟨_, rfl⟩
      rw [hx] at hcr hl0 hu0
      have hwx : IntKind.i64.wrap x = x := IntWalk.i64_in _ (by omega)
      have hxwf : (Lit.int .i64 x).wf = true := by
        have hm : IntKind.i64.min = -9223372036854775808 ∧ IntKind.i64.max = 9223372036854775807 := by decide
        simp [Lit.wf, hm.1, hm.2]
        omega
      have HXW := Lib.hid hxwf
      have hj0 : (0 : Int) ≤ (j : Int) := by omega
      have hj1 : (j : Int) < (n0 : Int) := by omega
      have hjw : IntKind.i64.wrap ((j : Int) + 1) = (j : Int) + 1 := IntWalk.i64_in _ (by have := HNN.out; omega)
      have d0 := HM.out.box.cell 0
      have d1 := HM.out.box.cell 1
      have d2 := HM.out.box.cell 2
      have d3 := HM.out.box.cell 3
      have d4 := HM.out.box.cell 4
      simp only [List.getElem?_toArray, List.getElem?_cons_zero, List.getElem?_cons_succ] at d0 d1 d2 d3 d4
      have HC1 := Lib.hid (HM.out.int_p HT1.out (by have := HNN.out; omega) hxwf)
      clear hc0 hb0 hKW hx hxwf
      go_wp2_with fail
      refine HC1.out.mono ?_
      rintro r w5 ⟨⟨e5, rfl⟩, hm5⟩
      have HM5 := Lib.hid hm5
      have HC2 := Lib.hid (hm5.int_d (d := ⟨1, 60000, [], 0, 0⟩) (A := none) (n := 0) (c := 0) (Keeps.refl _ _) HT1.out (by have := HNN.out; omega) HXW.out ⟨.inl rfl, rfl, by omega⟩ (by simp) (fun h => by omega) (X' := nx x X) (fun s hs => by rw [(pInt60 x s.1 s.2).2]; simp [hs]))
      unfold dv at HC2
      simp only at HC2
      have d0 := HM5.out.box.cell 0
      have d1 := HM5.out.box.cell 1
      have d2 := HM5.out.box.cell 2
      have d3 := HM5.out.box.cell 3
      have d4 := HM5.out.box.cell 4
      simp only [List.getElem?_toArray, List.getElem?_cons_zero, List.getElem?_cons_succ] at d0 d1 d2 d3 d4
      clear hm5 HC1
      go_wp2_with fail
      refine HC2.out.mono ?_
      rintro r w6 ⟨⟨e6, rfl⟩, hm6, -⟩
      have HM6 := Lib.hid hm6
      clear hm6 HC2
      by_cases hj2 : (j : Int) < (n1 : Int)
      · have hj2n : j < n1 := by omega
        obtain ⟨hA1, hb1⟩ := H1.out.at_ (by omega)
        obtain ⟨hA2, hb2⟩ := H2.out.at_ (by have := HNN.out; omega)
        subst hA1 hA2
        have hK6 : Keeps (w1.heap.size ≤ ·) w1 w6 := HM6.out.keeps
        have hKw : Keeps (w.heap.size ≤ ·) w w6 := (HK1.out.mono fun _ _ hf => hf.elim).trans (hK6.mono fun k _ hf => Nat.le_trans HS1.out hf)
        have hac := (H1.out.keeps hKw).cell j hj2n
        have haok := (H1.out.keeps hKw).ok j hj2n
        have hlow := (H1.out.ok j hj2n).low
        obtain ⟨a, ha⟩ : ∃ a, fs j = a := ⟨_, rfl⟩
        rw [ha] at hac haok hlow
        obtain ⟨hrem, hk⟩ := wayAt_lt (a := a) (n := n2) haok.way.1 (by have := HNN.out; omega)
        obtain ⟨k, hkk⟩ : ∃ k, wayAt a n2 = k := ⟨_, rfl⟩
        rw [hkk] at hrem hk
        have hsc := (H2.out.keeps hKw).cell k hk
        have hsok := H2.out.ok k hk
        obtain ⟨sm, hsm⟩ : ∃ sm, fw k = sm := ⟨_, rfl⟩
        obtain ⟨As, hAs⟩ : ∃ As, fa k = As := ⟨_, rfl⟩
        obtain ⟨cs, hcs⟩ : ∃ cs, fc k = cs := ⟨_, rfl⟩
        rw [hsm, hAs, hcs] at hsc
        rw [hsm] at hsok
        clear ha hkk hsm hAs hcs
        obtain ⟨way, N, wh, Ab, nb, cb, arr, bs⟩ := a
        have HAO := Lib.hid haok
        have HSO := Lib.hid hsok
        have HLOW := Lib.hid hlow
        obtain ⟨sK, sbi, sB, sle, sn, sS, sst⟩ := sm
        have hway := haok.way
        have hsB := hsok.B
        simp only at hway hrem hsB
        have e0 := hac 0 (by omega)
        have e1 := hac 1 (by omega)
        have e2 := hac 2 (by omega)
        have e3 := hac 3 (by omega)
        have e4 := hac 4 (by omega)
        have g0 := hsc 0 (by omega)
        have g1 := hsc 1 (by omega)
        have g2 := hsc 2 (by omega)
        have g3 := hsc 3 (by omega)
        have g4 := hsc 4 (by omega)
        have g5 := hsc 5 (by omega)
        have g6 := hsc 6 (by omega)
        unfold Ac.v actv at e0 e1 e2 e3 e4
        unfold Sm.v at g0 g1 g2 g3 g4 g5 g6
        simp only [List.getElem?_toArray, List.getElem?_cons_zero, List.getElem?_cons_succ, Nat.add_zero] at e0 e1 e2 e3 e4 g0 g1 g2 g3 g4 g5 g6
        have HFAR : Hid (∀ o' : Obj, ∀ y, (w6.alloc o').cell? ⟨b2, y, none⟩ = w6.cell? ⟨b2, y, none⟩) := fun o' y => World.cell?_of_block (w := w6) (Below.heap_alloc w6 o' b2 (Nat.lt_of_lt_of_le hb2 hKw.size))
        have q0 := (HFAR.out (.cells #[.int .u8 way, .int .i64 N, .int .u8 wh, .slice Ab nb cb, .bool arr] 45) _).trans g0
        have q1 := (HFAR.out (.cells #[.int .u8 way, .int .i64 N, .int .u8 wh, .slice Ab nb cb, .bool arr] 45) _).trans g1
        have q2 := (HFAR.out (.cells #[.int .u8 way, .int .i64 N, .int .u8 wh, .slice Ab nb cb, .bool arr] 45) _).trans g2
        have q3 := (HFAR.out (.cells #[.int .u8 way, .int .i64 N, .int .u8 wh, .slice Ab nb cb, .bool arr] 45) _).trans g3
        have q4 := (HFAR.out (.cells #[.int .u8 way, .int .i64 N, .int .u8 wh, .slice Ab nb cb, .bool arr] 45) _).trans g4
        have q5 := (HFAR.out (.cells #[.int .u8 way, .int .i64 N, .int .u8 wh, .slice Ab nb cb, .bool arr] 45) _).trans g5
        have q6 := (HFAR.out (.cells #[.int .u8 way, .int .i64 N, .int .u8 wh, .slice Ab nb cb, .bool arr] 45) _).trans g6
        have hww : IntKind.i64.wrap way = way := IntWalk.i64_in _ (by omega)
        have hn2e : ¬ ((n2 : Int) = 0) := by have := HNN.out; omega
        have hk0 : (0 : Int) ≤ (k : Int) := by omega
        have hk1 : (k : Int) < (n2 : Int) := by omega
        have hBm : sB.tmod 100 = sB % 100 := Int.tmod_eq_emod_of_nonneg hsB.1
        have hBw : IntKind.u16.wrap (sB % 100) = sB % 100 := by rw [IntKind.wrap_u16]; omega
        clear hac hsc haok hsok hlow hKw hK6 hb1 hb2 g0 g1 g2 g3 g4 g5 g6
        go_upto_region 16 with fail
        have HB1 : Hid (Blk ((w6.alloc (.cells #[.int .u8 way, .int .i64 N, .int .u8 wh, .slice Ab nb cb, .bool arr] 45)).alloc (.cells #[.int .u8 sK, .int .u8 sbi, .int .u16 (sB % 100), .int .i16 sle, .slice As sn cs, .int .u8 sS, .bool sst] 49)) w6.heap.size 45 #[.int .u8 way, .int .i64 N, .int .u8 wh, .slice Ab nb cb, .bool arr]) := Lib.hid ((Blk.new w6 45 _).keeps ((Keeps.refl (fun _ => False) _).alloc _) id)
        have HB2 : Hid (Blk ((w6.alloc (.cells #[.int .u8 way, .int .i64 N, .int .u8 wh, .slice Ab nb cb, .bool arr] 45)).alloc (.cells #[.int .u8 sK, .int .u8 sbi, .int .u16 (sB % 100), .int .i16 sle, .slice As sn cs, .int .u8 sS, .bool sst] 49)) (w6.heap.size + 1) 49 #[.int .u8 sK, .int .u8 sbi, .int .u16 (sB % 100), .int .i16 sle, .slice As sn cs, .int .u8 sS, .bool sst]) := by
          have := Blk.new (w6.alloc (.cells #[.int .u8 way, .int .i64 N, .int .u8 wh, .slice Ab nb cb, .bool arr] 45)) 49 #[.int .u8 sK, .int .u8 sbi, .int .u16 (sB % 100), .int .i16 sle, .slice As sn cs, .int .u8 sS, .bool sst]
          have e1 : (w6.alloc (.cells #[.int .u8 way, .int .i64 N, .int .u8 wh, .slice Ab nb cb, .bool arr] 45)).heap.size = w6.heap.size + 1 := by simp
          rw [e1] at this
          exact this
        have HK8 : Hid (Keeps (fun _ => False) w6 ((w6.alloc (.cells #[.int .u8 way, .int .i64 N, .int .u8 wh, .slice Ab nb cb, .bool arr] 45)).alloc (.cells #[.int .u8 sK, .int .u8 sbi, .int .u16 (sB % 100), .int .i16 sle, .slice As sn cs, .int .u8 sS, .bool sst] 49))) := Lib.hid (((Keeps.refl _ _).alloc _).alloc _)
        generalize (w6.alloc (.cells #[.int .u8 way, .int .i64 N, .int .u8 wh, .slice Ab nb cb, .bool arr] 45)).alloc (.cells #[.int .u8 sK, .int .u8 sbi, .int .u16 (sB % 100), .int .i16 sle, .slice As sn cs, .int .u8 sS, .bool sst] 49) = W at HB1 HB2 HK8 ⊢
        clear HFAR q0 q1 q2 q3 q4 q5 q6 e0 e1 e2 e3 e4 d0 d1 d2 d3 d4
        obtain ⟨ga, hga⟩ : ∃ g, w6.heap.size = g := ⟨_, rfl⟩
        obtain ⟨gs, hgs⟩ : ∃ g, ga + 1 = g := ⟨_, rfl⟩
        rw [hga, hgs] at HB2 ⊢
        rw [hga] at HB1
        have HGA : Hid (w6.heap.size ≤ ga ∧ w6.heap.size ≤ gs ∧ ga < W.heap.size ∧ gs < W.heap.size) := ⟨by omega, by omega, HB1.out.lt, HB2.out.lt⟩
        clear hga hgs
        have HG : Hid (∀ W1, Keeps (fun _ => False) W W1 → (W1.cell? ⟨gs, 0, none⟩ = some (.int .u8 sK) ∧ W1.cell? ⟨gs, 1, none⟩ = some (.int .u8 sbi) ∧ W1.cell? ⟨gs, 2, none⟩ = some (.int .u16 (sB % 100)) ∧ W1.cell? ⟨gs, 3, none⟩ = some (.int .i16 sle) ∧ W1.cell? ⟨gs, 4, none⟩ = some (.slice As sn cs) ∧ W1.cell? ⟨gs, 5, none⟩ = some (.int .u8 sS) ∧ W1.cell? ⟨gs, 6, none⟩ = some (.bool sst) ∧
            W1.cell? ⟨ga, 0, none⟩ = some (.int .u8 way) ∧ W1.cell? ⟨ga, 1, none⟩ = some (.int .i64 N) ∧ W1.cell? ⟨ga, 2, none⟩ = some (.int .u8 wh) ∧ W1.cell? ⟨ga, 3, none⟩ = some (.slice Ab nb cb) ∧ W1.cell? ⟨ga, 4, none⟩ = some (.bool arr))) := by
          intro W1 k
          have h0 := HB2.out.keeps k id
          have h1 := HB1.out.keeps k id
          exact ⟨h0.cell 0, h0.cell 1, h0.cell 2, h0.cell 3, h0.cell 4, h0.cell 5, h0.cell 6, h1.cell 0, h1.cell 1, h1.cell 2, h1.cell 3, h1.cell 4⟩
        have HGF : Hid (∀ (W2 W1 : World), Keeps (fun _ => False) W W1 → (∀ g, w6.heap.size ≤ g → g < W1.heap.size → ∀ i, W2.cell? ⟨g, i, none⟩ = W1.cell? ⟨g, i, none⟩) → (W2.cell? ⟨gs, 0, none⟩ = some (.int .u8 sK) ∧ W2.cell? ⟨gs, 1, none⟩ = some (.int .u8 sbi) ∧ W2.cell? ⟨gs, 2, none⟩ = some (.int .u16 (sB % 100)) ∧ W2.cell? ⟨gs, 3, none⟩ = some (.int .i16 sle) ∧ W2.cell? ⟨gs, 4, none⟩ = some (.slice As sn cs) ∧ W2.cell? ⟨gs, 5, none⟩ = some (.int .u8 sS) ∧ W2.cell? ⟨gs, 6, none⟩ = some (.bool sst) ∧
            W2.cell? ⟨ga, 0, none⟩ = some (.int .u8 way) ∧ W2.cell? ⟨ga, 1, none⟩ = some (.int .i64 N) ∧ W2.cell? ⟨ga, 2, none⟩ = some (.int .u8 wh) ∧ W2.cell? ⟨ga, 3, none⟩ = some (.slice Ab nb cb) ∧ W2.cell? ⟨ga, 4, none⟩ = some (.bool arr))) := by
          intro W2 W1 k hf
          obtain ⟨q1, q2, q3, q4⟩ := HGA.out
          have ea := hf ga q1 (Nat.lt_of_lt_of_le q3 k.size)
          have es := hf gs q2 (Nat.lt_of_lt_of_le q4 k.size)
          rw [es 0, es 1, es 2, es 3, es 4, es 5, es 6, ea 0, ea 1, ea 2, ea 3, ea 4]
          exact HG.out W1 k
        obtain ⟨x0, x1, x2, x3, x4, x5, x6, y0, y1, y2, y3, y4⟩ := HG.out W (Keeps.refl _ _)
        by_cases hnb : (100 : Int) < (nb : Int)
        · go_wp2
          go_ret
          exact ⟨rfl, (HM6.out.all HK1.out).trans HK8.out⟩
        by_cases hsn : (60 : Int) < (sn : Int)
        · go_wp2
          go_ret
          exact ⟨rfl, (HM6.out.all HK1.out).trans HK8.out⟩
        have HNB : Hid (nb ≤ 100) := by show nb ≤ 100; omega
        have hlo : (⟨sK, sbi, sB % 100, sle, sn, sS, sst⟩ : Sm).ok := low_ok HSO.out
        have hI0 := low_I ⟨sK, sbi, sB, sle, sn, sS, sst⟩ HSO.out
        have hA0' := low_A ⟨sK, sbi, sB, sle, sn, sS, sst⟩ HSO.out
        change (⟨sK, sbi, sB % 100, sle, sn, sS, sst⟩ : Sm).I.K = 1 → (⟨sK, sbi, sB % 100, sle, sn, sS, sst⟩ : Sm).I.B.toNat ≠ 60000 at hI0
        change (⟨sK, sbi, sB % 100, sle, sn, sS, sst⟩ : Sm).A.B.toNat ≠ 60000 ∧ ((⟨sK, sbi, sB % 100, sle, sn, sS, sst⟩ : Sm).A.d.K = 1 → (⟨sK, sbi, sB % 100, sle, sn, sS, sst⟩ : Sm).A.d.B.toNat ≠ 60000) at hA0'
        have hci := (Sm.I_ok hlo).1
        have hfi := fits_I hlo
        have hfa := fits_A hlo
        have has := A_S hlo
        have HCI1 := Lib.hid (fun W => ints_ ⟨sK, sbi, sB % 100, sle, sn, sS, sst⟩ As cs W hlo)
        have HCA := Lib.hid (fun W => arrays_ ⟨sK, sbi, sB % 100, sle, sn, sS, sst⟩ As cs W hlo)
        obtain ⟨dI, hdI⟩ : ∃ d, (⟨sK, sbi, sB % 100, sle, sn, sS, sst⟩ : Sm).I = d := ⟨_, rfl⟩
        obtain ⟨dA, hdA⟩ : ∃ d, (⟨sK, sbi, sB % 100, sle, sn, sS, sst⟩ : Sm).A = d := ⟨_, rfl⟩
        rw [hdI] at hI0 hci hfi HCI1
        rw [hdA] at hA0' hfa has HCA
        have HI0 := Lib.hid hI0
        have HA0 := Lib.hid hA0'
        have HCI := Lib.hid hci
        have HFI := Lib.hid hfi
        have HFA := Lib.hid hfa
        have HAS := Lib.hid has
        have HQI := Lib.hid (fun (A : Option Addr) (n c : Nat) (W1 : World) (k : Keeps (fun _ => False) w6 W1) (hL : Ents W1 A n dI.L) (hE : ∀ b o, A = some ⟨b, o, none⟩ → w6.heap.size ≤ b) => HM6.out.int_d (d := dI) (c := c) (x := numOf N wh dI) k HT1.out (by have := HNN.out; omega) (numOf_wf hci HAO.out.num) hL hfi (fun _ => hE) (X' := nx x X) (fun s hs => (pInt_far dI _ s 60000 hI0).trans hs))
        have HQA := Lib.hid (fun (A : Option Addr) (n c : Nat) (W1 : World) (k : Keeps (fun _ => False) w6 W1) (hL : Ents W1 A n dA.d.L) (hE : ∀ b o, A = some ⟨b, o, none⟩ → w6.heap.size ≤ b) (hl : Lies W1 Ab bs) => HM6.out.arr (d := dA) (c := c) (A2 := Ab) (bs := bs) (m := nb) (c2 := cb) k HT1.out (by have := HNN.out; omega) hL hfa (fun _ => hE) has HAO.out.len HNB.out HAO.out.cap hl HAO.out.byte (fun h b o e => Nat.lt_of_lt_of_le (HLOW.out h b o e) HS1.out) (X' := nx x X) (fun s hs => (pArr_far dA bs s 60000 hA0'.1 hA0'.2).trans hs))
        have HCN := Lib.hid (fun (A : Option Addr) (n c : Nat) (W1 : World) (hL : Ents W1 A n dI.L) => number_ way N wh Ab nb cb arr A n c dI W1 HAO.out.num HAO.out.wh hci hL)
        unfold Sm.v MadeI at HCI1
        unfold Sm.v MadeA at HCA
        unfold actv at HCN
        have HCI2 := HCI1
        clear hI0 hA0' hci hfi hfa has hdI hdA hlo
        obtain ⟨u, hu⟩ : ∃ u, numOf N wh dI = u := ⟨_, rfl⟩
        rw [hu] at HQI HCN
        clear hu
        cases arr with
        | true =>
          go_upto_region 19 with fail
          go_region_held3 (fun w' => w'.cell? ⟨gs, 0, none⟩ = some (.int .u8 sK) ∧ w'.cell? ⟨gs, 1, none⟩ = some (.int .u8 sbi) ∧ w'.cell? ⟨gs, 2, none⟩ = some (.int .u16 (sB % 100)) ∧ w'.cell? ⟨gs, 3, none⟩ = some (.int .i16 sle) ∧ w'.cell? ⟨gs, 4, none⟩ = some (.slice As sn cs) ∧ w'.cell? ⟨gs, 5, none⟩ = some (.int .u8 sS) ∧ w'.cell? ⟨gs, 6, none⟩ = some (.bool sst) ∧
            w'.cell? ⟨ga, 0, none⟩ = some (.int .u8 way) ∧ w'.cell? ⟨ga, 1, none⟩ = some (.int .i64 N) ∧ w'.cell? ⟨ga, 2, none⟩ = some (.int .u8 wh) ∧ w'.cell? ⟨ga, 3, none⟩ = some (.slice Ab nb cb) ∧ w'.cell? ⟨ga, 4, none⟩ = some (.bool true)) (go_keep)
            (first
              | (have H := HCA; go_at_call 14; refine (H.out _).mono ?_; rintro r w8 ⟨A8, n8, c8, rfl, hL8, hE8, hk8'⟩; have hk8 : Keeps (fun _ => False) W w8 := hk8'.of_drew; obtain ⟨x0_8, x1_8, x2_8, x3_8, x4_8, x5_8, x6_8, y0_8, y1_8, y2_8, y3_8, y4_8⟩ := HG.out w8 hk8; have HKW := Lib.hid hk8; have HK9 := Lib.hid (HK8.out.trans hk8); have HL8 := Lib.hid hL8; (have HE8 : Hid (∀ b o, A8 = some ⟨b, o, none⟩ → w6.heap.size ≤ b) := fun b o e => Nat.le_trans HK8.out.size (hE8 b o e)); clear hk8 hk8' hL8 hE8 HCA)
              | (have H := HQA; go_at_call 10; refine (H.out _ _ _ _ HK9.out HL8.out HE8.out (HAO.out.lies.keeps HK9.out fun _ _ _ => id)).mono ?_; rintro r w9 ⟨⟨e9, rfl⟩, hm9, hf9⟩; obtain ⟨x0_9, x1_9, x2_9, x3_9, x4_9, x5_9, x6_9, y0_9, y1_9, y2_9, y3_9, y4_9⟩ := HGF.out w9 _ HKW.out hf9; have HM9 := Lib.hid hm9; clear hm9 hf9 HQA))
          all_goals go_wp2
          all_goals exact ⟨⟨j + 1, by go_num, by omega, nx x X, Lib.hid (HM9.out.up (by omega))⟩, by simp [intOf]; omega⟩
        | false =>
          go_upto_region 20 with fail
          go_region_held3 (fun w' => w'.cell? ⟨gs, 0, none⟩ = some (.int .u8 sK) ∧ w'.cell? ⟨gs, 1, none⟩ = some (.int .u8 sbi) ∧ w'.cell? ⟨gs, 2, none⟩ = some (.int .u16 (sB % 100)) ∧ w'.cell? ⟨gs, 3, none⟩ = some (.int .i16 sle) ∧ w'.cell? ⟨gs, 4, none⟩ = some (.slice As sn cs) ∧ w'.cell? ⟨gs, 5, none⟩ = some (.int .u8 sS) ∧ w'.cell? ⟨gs, 6, none⟩ = some (.bool sst) ∧
            w'.cell? ⟨ga, 0, none⟩ = some (.int .u8 way) ∧ w'.cell? ⟨ga, 1, none⟩ = some (.int .i64 N) ∧ w'.cell? ⟨ga, 2, none⟩ = some (.int .u8 wh) ∧ w'.cell? ⟨ga, 3, none⟩ = some (.slice Ab nb cb) ∧ w'.cell? ⟨ga, 4, none⟩ = some (.bool false)) (go_keep)
            (first
              | (have H := HCI1; go_at_call 15; refine (H.out _).mono ?_; rintro r w8 ⟨A8, n8, c8, rfl, hL8, hE8, hk8'⟩; have hk8 : Keeps (fun _ => False) W w8 := hk8'.of_drew; obtain ⟨x0_8, x1_8, x2_8, x3_8, x4_8, x5_8, x6_8, y0_8, y1_8, y2_8, y3_8, y4_8⟩ := HG.out w8 hk8; have HK9 := Lib.hid hk8; have HL8 := Lib.hid hL8; (have HE8 : Hid (∀ b o, A8 = some ⟨b, o, none⟩ → w6.heap.size ≤ b) := fun b o e => Nat.le_trans HK8.out.size (hE8 b o e)); clear hk8 hk8' hL8 hE8 HCI1)
              | (have H := HCI2; have KK := HK9; go_at_call 15; refine (H.out _).mono ?_; rintro r w9 ⟨A9, n9, c9, rfl, hL9, hE9, hk9'⟩; have hk9 : Keeps (fun _ => False) W w9 := KK.out.trans hk9'; obtain ⟨x0_9, x1_9, x2_9, x3_9, x4_9, x5_9, x6_9, y0_9, y1_9, y2_9, y3_9, y4_9⟩ := HG.out w9 hk9; have HK10 := Lib.hid hk9; have HL9 := Lib.hid hL9; have HL8b := Lib.hid (HL8.out.more hk9'); clear hk9 hk9' hL9 hE9 HCI2 HL8)
              | (have H := HCN; go_at_call 16; refine (H.out _ _ _ _ HL9.out).mono ?_; rintro r w10 ⟨rfl, hk10'⟩; have hk10 : Keeps (fun _ => False) W w10 := HK10.out.trans hk10'; obtain ⟨x0_10, x1_10, x2_10, x3_10, x4_10, x5_10, x6_10, y0_10, y1_10, y2_10, y3_10, y4_10⟩ := HG.out w10 hk10; have HKW := Lib.hid hk10; have HK11 := Lib.hid (HK8.out.trans hk10); have HL10 := Lib.hid (HL8b.out.more hk10'); clear hk10 hk10' HCN)
              | (have H := HQI; go_at_call 9; refine (H.out _ _ _ _ HK11.out HL10.out HE8.out).mono ?_; rintro r w11 ⟨⟨e11, rfl⟩, hm11, hf11⟩; obtain ⟨x0_11, x1_11, x2_11, x3_11, x4_11, x5_11, x6_11, y0_11, y1_11, y2_11, y3_11, y4_11⟩ := HGF.out w11 _ HKW.out hf11; have HM9 := Lib.hid hm11; clear hm11 hf11 HQI))
          all_goals go_wp2
          all_goals exact ⟨⟨j + 1, by go_num, by omega, nx x X, Lib.hid (HM9.out.up (by omega))⟩, by simp [intOf]; omega⟩
      · go_wp2
        exact ⟨⟨j + 1, by go_num, by omega, nx x X, Lib.hid (HM6.out.up (by omega))⟩, by simp [intOf]; omega⟩
    · obtain rfl : j = n0 := by omega
      obtain ⟨⟨F1, F2, G1, G2, N1, N2, l2, h1, h2, h3, h4, h5, h6, h7, h8, h9, h10, h11⟩, hb, hk⟩ := HM.out
      have hw6 : (Lit.int .i64 60000).wf = true := by decide
      have e1 : hadI G1 60000 = X.getD [] := by
        unfold hadI
        rw [if_pos (by omega), had_cont, h5]
        unfold hadP
        simp
      have e2 : hadI G2 60000 = X.getD [] := by
        unfold hadI
        rw [if_pos (by omega), had_cont]
        unfold hadP
        rw [show ((60000 : Int).toNat) = 60000 from rfl, h6]
      obtain ⟨ys, hys⟩ : ∃ ys, X.getD [] = ys := ⟨_, rfl⟩
      rw [hys] at e1 e2
      obtain ⟨m, hm⟩ : ∃ m, ys.length = m := ⟨_, rfl⟩
      have HB1 := Lib.hid (fun W1 (k : Keeps (fun _ => False) wr W1) => block_ w1.heap.size p F1 [] G1 N1 60000 m W1 (h1.more k) hw6 (by rw [e1, hm]))
      have HB2 := Lib.hid (fun W1 (k : Keeps (fun _ => False) wr W1) => block_ w1.heap.size q F2 l2 G2 N2 60000 m W1 (h2.more k) hw6 (by rw [e2, hm]))
      have HRW := Lib.hid (fun W1 (k : Keeps (fun _ => False) wr W1) => row_ w1.heap.size p F1 [] G1 N1 W1 (h1.more k) (by simp))
      rw [e1] at HB1
      rw [e2] at HB2
      have HYM := Lib.hid hm
      have HKR := Lib.hid (HM.out.all HK1.out)
      clear h1 h2 h3 h4 h5 h6 h7 h8 h9 h10 h11 hb hk e1 e2 hys hm HM H0 H0C H1 H2 hj hlt
      have HKZ := Lib.hid ((Keeps.refl (fun _ => False) wr).drewN 1)
      go_upto_region 22 with fail
      refine wp_region_noPanic ?_
      refine wp_region_held_drew (S := fun w' => Keeps (fun _ => False) wr w') (by kernel_rfl) HKZ.out (fun hHeld => ?_)
      refine wpAnyH_take (i := 0) (v := ?vz0) rfl (by kernel_rfl) (by kernel_rfl) (by kernel_rfl) (fun _ _ _ h => h) (Or.inl ⟨by rfl, ?yz0⟩) hHeld ?rz0
      case yz0 => (intro w' hSw; go_simp; try with_reducible rfl)
      simp only [Act.put, List.getElem_toArray, List.getElem_cons_succ, List.getElem_cons_zero, List.setIfInBounds_toArray, List.set_cons_zero, List.set_cons_succ]
      refine wpAnyH_take (i := 3) (v := ?vz3) rfl (by kernel_rfl) (by kernel_rfl) (by kernel_rfl) (fun _ _ _ h => h) (Or.inl ⟨by rfl, ?yz3⟩) hHeld ?rz3
      case yz3 => (intro w' hSw; go_simp; try with_reducible rfl)
      simp only [Act.put, List.getElem_toArray, List.getElem_cons_succ, List.getElem_cons_zero, List.setIfInBounds_toArray, List.set_cons_zero, List.set_cons_succ]
      refine wpAnyH_ready (rs := [1]) (by kernel_rfl) (by simp) ?_
      refine AllReadyH.cons rfl (fun K hK => ?_) AllReadyH.nil
      go_simp
      refine (HB1.out _ HKZ.out).mono ?_
      rintro e w5 ⟨A5, c5, rfl, ho, hk⟩
      have HO5 := Lib.hid ho
      have HK5 := Lib.hid (HKZ.out.trans hk)
      clear ho HB1
      dsimp only
      refine hK.out _ _ (hHeld.trans hk) (fun hHeld => ?_)
      clear hK K
      try simp only [Act.put, List.getElem_toArray, List.getElem_cons_succ, List.getElem_cons_zero, List.setIfInBounds_toArray, List.set_cons_zero, List.set_cons_succ]
      refine Ao.wpAnyH_as (S' := fun w' => Keeps (fun _ => False) w5 w') (fun w' k => hHeld.trans k) _ _ _ _ ?_
      replace hHeld : Keeps (fun _ => False) w5 w5 := Keeps.refl _ _
      clear hk
      have HC1 : Hid (∀ w', Keeps (fun _ => False) w5 w' → (convert 28 9 (.slice A5 m c5)).run Tryd.prog w' = .ok (.string (strOfNums ys)) w') := fun w' k => (Lies.of_own (own_keeps HO5.out k (fun _ _ => id))).str_n (P := Tryd.prog) m HYM.out 28 9 5 c5 Tryd.underlying28 Tryd.underlying5 Tryd.underlying9
      refine wpAnyH_take (i := 2) (v := ?vz2) rfl (by kernel_rfl) (by kernel_rfl) (by kernel_rfl) (fun _ _ _ h => h) (Or.inl ⟨by rfl, ?yz2⟩) hHeld ?rz2
      case yz2 => (intro w' hSw; have hcv := HC1.out w' hSw; go_simp; try with_reducible rfl)
      simp only [Act.put, List.getElem_toArray, List.getElem_cons_succ, List.getElem_cons_zero, List.setIfInBounds_toArray, List.set_cons_zero, List.set_cons_succ]
      refine wpAnyH_ready (rs := [4]) (by kernel_rfl) (by simp) ?_
      refine AllReadyH.cons rfl (fun K hK => ?_) AllReadyH.nil
      go_simp
      refine (HB2.out _ HK5.out).mono ?_
      rintro e w6 ⟨A6, c6, rfl, ho, hk⟩
      have HO6 := Lib.hid ho
      have HK6 := Lib.hid (HK5.out.trans hk)
      clear ho HB2
      dsimp only
      refine hK.out _ _ (hHeld.trans hk) (fun hHeld => ?_)
      clear hK K
      try simp only [Act.put, List.getElem_toArray, List.getElem_cons_succ, List.getElem_cons_zero, List.setIfInBounds_toArray, List.set_cons_zero, List.set_cons_succ]
      refine Ao.wpAnyH_as (S' := fun w' => Keeps (fun _ => False) w6 w') (fun w' k => hHeld.trans k) _ _ _ _ ?_
      replace hHeld : Keeps (fun _ => False) w6 w6 := Keeps.refl _ _
      clear hk
      have HC2 : Hid (∀ w', Keeps (fun _ => False) w6 w' → (convert 28 9 (.slice A6 m c6)).run Tryd.prog w' = .ok (.string (strOfNums ys)) w') := fun w' k => (Lies.of_own (own_keeps HO6.out k (fun _ _ => id))).str_n (P := Tryd.prog) m HYM.out 28 9 5 c6 Tryd.underlying28 Tryd.underlying5 Tryd.underlying9
      refine wpAnyH_take (i := 5) (v := ?vz5) rfl (by kernel_rfl) (by kernel_rfl) (by kernel_rfl) (fun _ _ _ h => h) (Or.inl ⟨by rfl, ?yz5⟩) hHeld ?rz5
      case yz5 => (intro w' hSw; have hcv := HC2.out w' hSw; go_simp; try with_reducible rfl)
      simp only [Act.put, List.getElem_toArray, List.getElem_cons_succ, List.getElem_cons_zero, List.setIfInBounds_toArray, List.set_cons_zero, List.set_cons_succ]
      refine wpAnyH_take (i := 6) (v := ?vz6) rfl (by kernel_rfl) (by kernel_rfl) (by kernel_rfl) (fun _ _ _ h => h) (Or.inl ⟨by rfl, ?yz6⟩) hHeld ?rz6
      case yz6 => (intro w' hSw; go_simp; try with_reducible rfl)
      simp only [Act.put, List.getElem_toArray, List.getElem_cons_succ, List.getElem_cons_zero, List.setIfInBounds_toArray, List.set_cons_zero, List.set_cons_succ]
      refine wpAnyH_take (i := 7) (v := ?vz7) rfl (by kernel_rfl) (by kernel_rfl) (by kernel_rfl) (fun _ _ _ h => h) (Or.inl ⟨by rfl, ?yz7⟩) hHeld ?rz7
      case yz7 => (intro w' hSw; go_simp; try with_reducible rfl)
      simp only [Act.put, List.getElem_toArray, List.getElem_cons_succ, List.getElem_cons_zero, List.setIfInBounds_toArray, List.set_cons_zero, List.set_cons_succ]
      refine wpAnyH_take (i := 8) (v := ?vz8) rfl (by kernel_rfl) (by kernel_rfl) (by kernel_rfl) (fun _ _ _ h => h) (Or.inl ⟨by rfl, ?yz8⟩) hHeld ?rz8
      case yz8 => (intro w' hSw; go_simp; try with_reducible rfl)
      simp only [Act.put, List.getElem_toArray, List.getElem_cons_succ, List.getElem_cons_zero, List.setIfInBounds_toArray, List.set_cons_zero, List.set_cons_succ]
      refine wpAnyH_ready (rs := [9]) (by kernel_rfl) (by simp) ?_
      refine AllReadyH.cons rfl (fun K hK => ?_) AllReadyH.nil
      go_simp
      refine (HRW.out _ HK6.out).mono ?_
      rintro e w7 ⟨A7, c7, zs, n7, hn7, rfl, hpk, hby, hv7, hk⟩
      obtain rfl := packed_nil hpk hn7 hby
      have HK7 := Lib.hid (HK6.out.trans hk)
      clear hn7 hpk hby hv7 HRW
      dsimp only
      refine hK.out _ _ (hHeld.trans hk) (fun hHeld => ?_)
      clear hK K
      try simp only [Act.put, List.getElem_toArray, List.getElem_cons_succ, List.getElem_cons_zero, List.setIfInBounds_toArray, List.set_cons_zero, List.set_cons_succ]
      refine Ao.wpAnyH_as (S' := fun w' => Keeps (fun _ => False) w7 w') (fun w' k => hHeld.trans k) _ _ _ _ ?_
      replace hHeld : Keeps (fun _ => False) w7 w7 := Keeps.refl _ _
      clear hk
      refine wpAnyH_take (i := 10) (v := ?vz10) rfl (by kernel_rfl) (by kernel_rfl) (by kernel_rfl) (fun _ _ _ h => h) (Or.inl ⟨by rfl, ?yz10⟩) hHeld ?rz10
      case yz10 => (intro w' hSw; go_simp; try with_reducible rfl)
      simp only [Act.put, List.getElem_toArray, List.getElem_cons_succ, List.getElem_cons_zero, List.setIfInBounds_toArray, List.set_cons_zero, List.set_cons_succ]
      refine wpAnyH_take (i := 11) (v := ?vz11) rfl (by kernel_rfl) (by kernel_rfl) (by kernel_rfl) (fun _ _ _ h => h) (Or.inl ⟨by rfl, ?yz11⟩) hHeld ?rz11
      case yz11 => (intro w' hSw; go_simp; try with_reducible rfl)
      simp only [Act.put, List.getElem_toArray, List.getElem_cons_succ, List.getElem_cons_zero, List.setIfInBounds_toArray, List.set_cons_zero, List.set_cons_succ]
      refine wpAnyH_take (i := 12) (v := ?vz12) rfl (by kernel_rfl) (by kernel_rfl) (by kernel_rfl) (fun _ _ _ h => h) (Or.inl ⟨by rfl, ?yz12⟩) hHeld ?rz12
      case yz12 => (intro w' hSw; go_simp; try with_reducible rfl)
      simp only [Act.put, List.getElem_toArray, List.getElem_cons_succ, List.getElem_cons_zero, List.setIfInBounds_toArray, List.set_cons_zero, List.set_cons_succ]
      refine wpAnyH_take (i := 13) (v := ?vz13) rfl (by kernel_rfl) (by kernel_rfl) (by kernel_rfl) (fun _ _ _ h => h) (Or.inl ⟨by rfl, ?yz13⟩) hHeld ?rz13
      case yz13 => (intro w' hSw; go_simp; try with_reducible rfl)
      simp only [Act.put, List.getElem_toArray, List.getElem_cons_succ, List.getElem_cons_zero, List.setIfInBounds_toArray, List.set_cons_zero, List.set_cons_succ]
      refine wpAnyH_done (by kernel_rfl) ?_ _
      clear hHeld
      refine NoPanic.normal ?_
      go_wp2
      go_ret
      exact ⟨by simp, HKR.out.trans HK7.out⟩
end Go.Proofs.YtgaofnmgdefdcaaDoor.Qn
