/- The walk of the statement ContigSame: any small numbers. -/
import Derived.Test.YtbekdcakmeejaaaCtJ3
import Derived.Test.YtbekdcakmeejaaaCtLJo
namespace Go.Proofs.Ytbekdcakmeejaaa.Ct
open Go.RowKit Go.Proofs.Ytbekdcakmeejaaa.Gen Go.Proofs.Ytbekdcakmeejaaa.Ca Go.Proofs.Ytbekdcakmeejaaa.Cl

def n3 {α : Type} (a b : α) : Nat → α
  | 1 => b
  | _ => a
/-- Which operations have come up ahead of which. -/
def Inv3 (L : Nat → Bool) : Prop := (L 3 = true → L 1 = true) ∧ (L 5 = true → L 3 = true) ∧ ∀ j, j < 3 → L (9 + j) = true → L 1 = true ∧ L 5 = true ∧ L 6 = true ∧ L 7 = true ∧ L 8 = true
theorem Inv3.no {L : Nat → Bool} (h : Inv3 L) (h0 : L 1 = false ∨ L 3 = false ∨ L 5 = false ∨ L 6 = false ∨ L 7 = false ∨ L 8 = false) (j : Nat) (hj : j < 3) : L (9 + j) = false := by
  cases hh : L (9 + j) with
  | false => rfl
  | true =>
    obtain ⟨a, b, c, d, e⟩ := h.2.2 j hj hh
    have f := h.2.1 b
    rcases h0 with h0 | h0 | h0 | h0 | h0 | h0
    · rw [a] at h0; exact h0
    · rw [f] at h0; exact h0
    · rw [b] at h0; exact h0
    · rw [c] at h0; exact h0
    · rw [d] at h0; exact h0
    · rw [e] at h0; exact h0
theorem Inv3.late {L : Nat → Bool} (h : Inv3 L) : (L 1 = false → L 3 = false ∧ L 5 = false) ∧ (L 3 = false → L 5 = false) := by
  have h1 : L 3 = false → L 5 = false := fun h3 => by
    cases hh : L 5 with
    | false => rfl
    | true => rw [h.2.1 hh] at h3; exact h3
  refine ⟨fun h0 => ?_, h1⟩
  have h3 : L 3 = false := by
    cases hh : L 3 with
    | false => rfl
    | true => rw [h.1 hh] at h0; exact h0
  exact ⟨h3, h1 h3⟩
theorem j3_init {W0 w : World} {N : Nat → Nat} {X : Nat → List Pr} {L : Nat → Bool} (hL : ∀ j, L j = true → j = 0 ∨ j = 2 ∨ j = 4) (hk : Keeps (fun _ => False) W0 w) :
    Inv3 L ∧ J3 W0 N X (fun _ => 0) (fun _ => 0) L (fun _ => undef) (fun _ => undef) w := by
  have no : ∀ j, ¬ (j = 0 ∨ j = 2 ∨ j = 4) → L j = true → False := fun j h1 h2 => h1 (hL j h2)
  refine ⟨⟨fun h => (no 3 (by omega) h).elim, fun h => (no 5 (by omega) h).elim, fun j _ h => (no (9 + j) (by omega) h).elim⟩, hk, fun j _ h => (no (2 * j + 1) (by omega) h).elim, fun j _ h => (no (6 + j) (by omega) h).elim, fun i j _ _ _ h => (no (6 + i) (by omega) h).elim, fun i j _ _ h => (no (2 * j + 1) (by omega) h).elim, fun j _ h => (no (2 * j + 1) (by omega) h).elim⟩
theorem Inv3.set {L : Nat → Bool} (h : Inv3 L) (i : Nat) (h3 : i = 3 → L 1 = true) (h5 : i = 5 → L 3 = true) (h9 : 9 ≤ i → L 1 = true ∧ L 5 = true ∧ L 6 = true ∧ L 7 = true ∧ L 8 = true) : Inv3 (fun k => if i = k then true else L k) := by
  obtain ⟨a, b, c⟩ := h
  have mono : ∀ k, L k = true → (if i = k then true else L k) = true := fun k hk => by split <;> simp [hk]
  refine ⟨fun h => ?_, fun h => ?_, fun j hj h => ?_⟩
  · by_cases e : i = 3
    · exact mono 1 (h3 e)
    · dsimp only at h; rw [if_neg e] at h; exact mono 1 (a h)
  · by_cases e : i = 5
    · exact mono 3 (h5 e)
    · dsimp only at h; rw [if_neg e] at h; exact mono 3 (b h)
  · have : L 1 = true ∧ L 5 = true ∧ L 6 = true ∧ L 7 = true ∧ L 8 = true := by
      by_cases e : i = 9 + j
      · exact h9 (by omega)
      · dsimp only at h; rw [if_neg e] at h; exact c j hj h
    exact ⟨mono 1 this.1, mono 5 this.2.1, mono 6 this.2.2.1, mono 7 this.2.2.2.1, mono 8 this.2.2.2.2⟩
/-- A letter of one's own contigs turned. -/
theorem mine_set {bs n c a j : Nat} {A : Option Addr} {es : List Ct} {e : Ct} {w : World} (h : Mine bs A n c es w) (hn : n ≤ 3000000) (he : es[a]? = some e) (hj : j < e.sq.length) :
    ∃ g, e.A = some ⟨g, 0, none⟩ ∧ bs ≤ g ∧ g < w.heap.size ∧ w.cell? ⟨g, j, none⟩ = some (.int .u8 (e.sq.getD j 0)) ∧ w.frozen? ⟨g, j, none⟩ = false ∧
      ∀ y : Int, 0 ≤ y → y < 256 → IsRef (w.setCell ⟨g, j, none⟩ (.int .u8 y)) A n (es.set a ⟨e.nm, e.A, e.c, e.sq.set j y⟩) := by
  have hal := (List.getElem?_eq_some_iff.1 he).1
  have hge := h.good e (List.mem_of_getElem? he)
  have ho := hge.2
  unfold Ct.v at ho
  obtain ⟨g, hA, hc, hf, hb, hl⟩ := own_cell ho hj
  refine ⟨g, hA, hb, hl, hc, hf, fun y h0 h1 => ?_⟩
  have hov : e.v.ownBlock = some g := by unfold Ct.v; rw [hA]; rfl
  have k : Keeps (fun b => b = g) w (w.setCell ⟨g, j, none⟩ (.int .u8 y)) := (Keeps.refl _ _).setOwn _ _
  have hown := own_keeps h.own k (fun b hb e1 => own_apart hge.2 h.own (by decide) hov (by rw [hb, e1]))
  have hr : IsRef (w.setCell ⟨g, j, none⟩ (.int .u8 y)) A n es → True := fun _ => trivial
  have hcv : cvs (es.set a ⟨e.nm, e.A, e.c, e.sq.set j y⟩) = cvs es := by
    have hes : es = es.take a ++ e :: es.drop (a + 1) := by
      obtain ⟨h1, h2⟩ := List.getElem?_eq_some_iff.1 he
      rw [← h2, ← List.drop_eq_getElem_cons h1, List.take_append_drop]
    rw [List.set_eq_take_append_cons_drop, if_pos hal]
    conv => rhs; rw [hes]
    simp only [cvs_app]
    congr 1
    simp [cvs, Ct.v]
  refine isRef_own (base := bs) (by rw [hcv]; exact hown) (by rw [List.length_set]; exact h.el) hn fun f hf => ?_
  obtain ⟨i, hi, hfi⟩ := List.getElem_of_mem hf
  by_cases e1 : i = a
  · subst e1
    rw [List.getElem_set_self] at hfi
    subst hfi
    rw [hA] at ho
    have hs := own_set ho (j := j) y
    refine ⟨?_, fun x hx => ?_, hge.1.bn, by simp only [List.length_set]; exact hge.1.ls, hge.1.ln⟩
    · simp only [hA]
      exact Lies.of_own hs
    · rcases List.mem_or_eq_of_mem_set hx with hx | rfl
      · exact hge.1.bs x hx
      · omega
  · rw [List.getElem_set_ne (Ne.symm e1)] at hfi
    have hil : i < es.length := by simpa using hi
    have hfm : f ∈ es := by rw [← hfi]; exact List.getElem_mem hil
    have hgf := h.good f hfm
    have hne : ∀ b, f.v.ownBlock = some b → ¬ b = g := by
      intro b hbo e2
      subst e2
      have hp := List.pairwise_iff_getElem.1 h.apart
      have hea : es[a]'hal = e := (List.getElem?_eq_some_iff.1 he).2
      rcases Nat.lt_or_ge i a with h3 | h3
      · have := hp i a hil hal h3
        rw [hfi, hea] at this
        exact this b hbo hov
      · have := hp a i hal hil (by omega)
        rw [hfi, hea] at this
        exact this b hov hbo
    have o := own_keeps hgf.2 k hne
    exact ⟨Lies.of_own o, hgf.1.bs, hgf.1.bn, hgf.1.ls, hgf.1.ln⟩
theorem text_inj {ps qs : List Pr} (hp : ∀ p ∈ ps, 10 ∉ p.1 ∧ 10 ∉ p.2) (hq : ∀ p ∈ qs, 10 ∉ p.1 ∧ 10 ∉ p.2) (h : text ps = text qs) : ps = qs := by
  have h1 := forms_of (ps.length + qs.length + 1) ps (by omega) hp
  have h2 := forms_of (ps.length + qs.length + 1) qs (by omega) hq
  rw [h, h2] at h1
  injection h1 with h1
  exact h1.symm
/-- Behind the three. -/
structure Fin3 (W : World) (N M : Nat) (X Y : List Pr) (P Q R : Nat) (A B C : Option Addr) (ca cb cc : Nat) (ea eb ec : List Ct) (b0 b1 b2 u0 u1 u2 : Nat) (w : World) : Prop where
  k : Keeps (fun _ => False) W w
  p : Blk w P 29 #[.slice A N ca]
  q : Blk w Q 29 #[.slice B M cb]
  r : Blk w R 29 #[.slice C N cc]
  a : Cal b0 u0 N X (.agg #[.slice A N ca]) A ca ea w
  b : Cal b1 u1 M Y (.agg #[.slice B M cb]) B cb eb w
  c : Cal b2 u2 N X (.agg #[.slice C N cc]) C cc ec w
  o1 : u0 ≤ b2
  o2 : u1 ≤ b2
  lo : W.heap.size ≤ b2
theorem Fin3.more {W : World} {N M : Nat} {X Y : List Pr} {P Q R : Nat} {A B C : Option Addr} {ca cb cc : Nat} {ea eb ec : List Ct} {b0 b1 b2 u0 u1 u2 : Nat} {w w1 : World} (h : Fin3 W N M X Y P Q R A B C ca cb cc ea eb ec b0 b1 b2 u0 u1 u2 w) (k : Keeps (fun _ => False) w w1) :
    Fin3 W N M X Y P Q R A B C ca cb cc ea eb ec b0 b1 b2 u0 u1 u2 w1 :=
  ⟨h.k.trans k, h.p.keeps k id, h.q.keeps k id, h.r.keeps k id, ⟨rfl, h.a.mine.more k, h.a.prs, h.a.ub⟩, ⟨rfl, h.b.mine.more k, h.b.prs, h.b.ub⟩, ⟨rfl, h.c.mine.more k, h.c.prs, h.c.ub⟩, h.o1, h.o2, h.lo⟩
theorem J3.done {W0 : World} {N M : Nat} {X Y : List Pr} {bs us : Nat → Nat} {L : Nat → Bool} {vc vp : Nat → Value} {w : World} (h : J3 W0 (n3 N M) (n3 X Y) bs us L vc vp w) (hb : W0.heap.size ≤ bs 2) (hL : ∀ i, i < 12 → L i = true) :
    ∃ P Q R A B C ca cb cc ea eb ec b0 b1 b2 u0 u1 u2, vp 0 = .pointer (some ⟨P, 0, none⟩) ∧ vp 1 = .pointer (some ⟨Q, 0, none⟩) ∧ vp 2 = .pointer (some ⟨R, 0, none⟩) ∧ Fin3 W0 N M X Y P Q R A B C ca cb cc ea eb ec b0 b1 b2 u0 u1 u2 w := by
  obtain ⟨A, ca, ea, ha⟩ := h.m 0 (by omega) (hL 1 (by omega))
  obtain ⟨B, cb, eb, hb'⟩ := h.m 1 (by omega) (hL 3 (by omega))
  obtain ⟨C, cc, ec, hc⟩ := h.m 2 (by omega) (hL 5 (by omega))
  obtain ⟨P, p1, _, _, p2⟩ := h.p 0 (by omega) (hL 6 (by omega))
  obtain ⟨Q, q1, _, _, q2⟩ := h.p 1 (by omega) (hL 7 (by omega))
  obtain ⟨R, r1, _, _, r2⟩ := h.p 2 (by omega) (hL 8 (by omega))
  obtain ⟨A', ca', e1, p3⟩ := p2 (hL 9 (by omega))
  obtain ⟨B', cb', e2, q3⟩ := q2 (hL 10 (by omega))
  obtain ⟨C', cc', e3, r3⟩ := r2 (hL 11 (by omega))
  have fix : ∀ {v : Value} {A A' : Option Addr} {n c c' : Nat}, v = .agg #[.slice A n c] → v = .agg #[.slice A' n c'] → A' = A ∧ c' = c := by
    intro v A A' n c c' h1 h2
    rw [h1] at h2
    simp at h2
    exact ⟨h2.1.symm, h2.2.symm⟩
  obtain ⟨rfl, rfl⟩ := fix ha.val e1
  obtain ⟨rfl, rfl⟩ := fix hb'.val e2
  obtain ⟨rfl, rfl⟩ := fix hc.val e3
  exact ⟨P, Q, R, _, _, _, _, _, _, ea, eb, ec, bs 0, bs 1, bs 2, us 0, us 1, us 2, p1, q1, r1, h.k, p3, q3, r3, ⟨rfl, ha.mine, ha.prs, ha.ub⟩, ⟨rfl, hb'.mine, hb'.prs, hb'.ub⟩, ⟨rfl, hc.mine, hc.prs, hc.ub⟩, h.o 0 2 (by omega) (by omega) (hL 5 (by omega)), h.o 1 2 (by omega) (by omega) (hL 5 (by omega)), hb⟩

set_option maxHeartbeats 16000000 in
set_option maxRecDepth 100000 in
theorem sameL_ (s t : Sml) (i k : Nat) (w : World) (hok : s.ok) (hok2 : t.ok) (hi : i < 256) (hk : k < 256) :
    Calls Try.prog 6 #[.agg s.cells, .agg t.cells, .int .u8 (i : Int), .int .u8 (k : Int)] w fun e w' => e = .returned (.bool true) ∧ Keeps (fun _ => False) w w' := by
  obtain ⟨W0, hW0⟩ : ∃ W0, W0 = (w.alloc (.cells s.cells 25)).alloc (.cells t.cells 25) := ⟨_, rfl⟩
  have hk0 : Keeps (fun _ => False) w W0 := by rw [hW0]; exact ((Keeps.refl _ _).alloc _).alloc _
  obtain ⟨p4, hp4⟩ : ∃ p4, p4 = w.heap.size := ⟨_, rfl⟩
  obtain ⟨p5, hp5⟩ : ∃ p5, p5 = w.heap.size + 1 := ⟨_, rfl⟩
  have HB4 : Hid (Blk W0 p4 25 s.cells) := by show Blk _ _ _ _; rw [hW0, hp4]; exact (Blk.new _ _ _).alloc _
  have HB5 : Hid (Blk W0 p5 25 t.cells) := by
    show Blk _ _ _ _
    rw [hW0, hp5]
    have h := Blk.new (w.alloc (.cells s.cells 25)) 25 t.cells
    rw [show (w.alloc (.cells s.cells 25)).heap.size = w.heap.size + 1 by simp] at h
    exact h
  have HK0 := Lib.hid hk0
  have HAW := Lib.hid (Aw.awake (w := W0))
  have HSA := Lib.hid (fun W => sref_ s hok W)
  have HSB := Lib.hid (fun W => sref_ t hok2 W)
  have bound : ∀ s : Sml, 1 ≤ s.n ∧ s.n ≤ 4 := fun s => by
    have := Nat.mod_lt s.K (show 0 < 4 by decide)
    unfold Sml.n
    omega
  obtain ⟨N, hN⟩ : ∃ N, s.n = N := ⟨_, rfl⟩
  obtain ⟨M, hM⟩ : ∃ M, t.n = M := ⟨_, rfl⟩
  have HN4 : Hid (1 ≤ N ∧ N ≤ 4) := by show _ ∧ _; rw [← hN]; exact bound s
  have HM4 : Hid (1 ≤ M ∧ M ≤ 4) := by show _ ∧ _; rw [← hM]; exact bound t
  obtain ⟨X, hX⟩ : ∃ X, s.ps N = X := ⟨_, rfl⟩
  obtain ⟨Y, hY⟩ : ∃ Y, t.ps M = Y := ⟨_, rfl⟩
  have HXX : Hid ((text X).length ≤ N * 130 ∧ (∀ p ∈ X, 10 ∉ p.1 ∧ 10 ∉ p.2) ∧ Byt (text X)) := by
    show _
    rw [← hX]
    exact ⟨(ps_text s N).1, ps_no10 s N, text_byt fun p hp => by obtain ⟨i, _, rfl⟩ := ps_mem hp; exact ⟨nm_byt i, all_byt (letters_all _ _)⟩⟩
  have HYY : Hid ((text Y).length ≤ M * 130 ∧ (∀ p ∈ Y, 10 ∉ p.1 ∧ 10 ∉ p.2) ∧ Byt (text Y)) := by
    show _
    rw [← hY]
    exact ⟨(ps_text t M).1, ps_no10 t M, text_byt fun p hp => by obtain ⟨i, _, rfl⟩ := ps_mem hp; exact ⟨nm_byt i, all_byt (letters_all _ _)⟩⟩
  have HSEQ : Hid (∀ (a : Nat) (e : Pr), X[a]? = some e → 20 ≤ e.2.length ∧ e.2.length ≤ 119) := Lib.hid (fun a e he => by
    rw [← hX] at he
    obtain ⟨i, _, rfl⟩ := ps_mem (List.mem_of_getElem? he)
    simp only [letters_len]
    exact len_le s i)
  unfold MadeRef at HSA HSB
  rw [hN, hX] at HSA
  rw [hM, hY] at HSB
  have HI := Lib.hid hi
  have HKK := Lib.hid hk
  clear hk0 hok hok2 bound hN hM hX hY hi hk
  obtain ⟨K, l0, l1, l2, l3, seed⟩ := s
  obtain ⟨K', l0', l1', l2', l3', seed'⟩ := t
  unfold Sml.cells at hW0 HB4 HB5 HSA HSB ⊢
  simp only at hW0 HB4 HB5 HSA HSB ⊢
  go_enter Try.func6, Try.ntmps6
  go_wp2_with fail
  rw [← hp5, ← hp4, ← hW0]
  clear hW0 hp4 hp5
  refine HAW.out.mono ?_
  rintro e w1 ⟨rfl, hk1⟩
  have HK1 := Lib.hid (HK0.out.trans hk1)
  have HB41 := Lib.hid (HB4.out.keeps hk1 id)
  have HB51 := Lib.hid (HB5.out.keeps hk1 id)
  clear hk1 HAW HK0 HB4 HB5
  go_upto_region 3 with fail
  go_cut [9, 10, 11] from 16 to 21 (fun v9 v10 v11 wx => ∃ P Q R A B C ca cb cc ea eb ec b0 b1 b2 u0 u1 u2, v9 = .pointer (some ⟨P, 0, none⟩) ∧ v10 = .pointer (some ⟨Q, 0, none⟩) ∧ v11 = .pointer (some ⟨R, 0, none⟩) ∧ Hid (Fin3 w1 N M X Y P Q R A B C ca cb cc ea eb ec b0 b1 b2 u0 u1 u2 wx))
  case first =>
    refine wp_region_held_drew (S := fun w' => Keeps (fun _ => False) w1 w') (by kernel_rfl) ((Keeps.refl _ _).drewN 1) (fun hHeld => ?_)
    refine wpAnyH_take (i := 0) (v := ?vz0x1) rfl (by kernel_rfl) (by kernel_rfl) (by kernel_rfl) (fun _ _ _ h => h) (Or.inl ⟨by rfl, ?yz0x1⟩) hHeld ?rz0x1
    case yz0x1 => (intro w' hSw; have hb := HB41.out.keeps hSw id; have y0 := hb.cell 0; have y1 := hb.cell 1; have y2 := hb.cell 2; have y3 := hb.cell 3; have y4 := hb.cell 4; have y5 := hb.cell 5; simp only [List.getElem?_toArray, List.getElem?_cons_zero, List.getElem?_cons_succ] at y0 y1 y2 y3 y4 y5; go_simp; try with_reducible rfl)
    simp only [Act.put, List.getElem_toArray, List.getElem_cons_succ, List.getElem_cons_zero, List.setIfInBounds_toArray, List.set_cons_zero, List.set_cons_succ]
    refine wpAnyH_take (i := 4) (v := ?vz4x2) rfl (by kernel_rfl) (by kernel_rfl) (by kernel_rfl) (fun _ _ _ h => h) (Or.inl ⟨by rfl, ?yz4x2⟩) hHeld ?rz4x2
    case yz4x2 => (intro w' hSw; have hb := HB41.out.keeps hSw id; have y0 := hb.cell 0; have y1 := hb.cell 1; have y2 := hb.cell 2; have y3 := hb.cell 3; have y4 := hb.cell 4; have y5 := hb.cell 5; simp only [List.getElem?_toArray, List.getElem?_cons_zero, List.getElem?_cons_succ] at y0 y1 y2 y3 y4 y5; go_simp; try with_reducible rfl)
    simp only [Act.put, List.getElem_toArray, List.getElem_cons_succ, List.getElem_cons_zero, List.setIfInBounds_toArray, List.set_cons_zero, List.set_cons_succ]
    refine wpAnyH_take (i := 2) (v := ?vz2x3) rfl (by kernel_rfl) (by kernel_rfl) (by kernel_rfl) (fun _ _ _ h => h) (Or.inl ⟨by rfl, ?yz2x3⟩) hHeld ?rz2x3
    case yz2x3 => (intro w' hSw; have hb := HB51.out.keeps hSw id; have y0 := hb.cell 0; have y1 := hb.cell 1; have y2 := hb.cell 2; have y3 := hb.cell 3; have y4 := hb.cell 4; have y5 := hb.cell 5; simp only [List.getElem?_toArray, List.getElem?_cons_zero, List.getElem?_cons_succ] at y0 y1 y2 y3 y4 y5; go_simp; try with_reducible rfl)
    simp only [Act.put, List.getElem_toArray, List.getElem_cons_succ, List.getElem_cons_zero, List.setIfInBounds_toArray, List.set_cons_zero, List.set_cons_succ]
    refine Ao.wpAnyH_vals [17, 19, 21, 9, 10, 11] [undef, undef, undef, undef, undef, undef] (fun L vs w' => ∃ vc vp bs us, vs = [vc 0, vc 1, vc 2, vp 0, vp 1, vp 2] ∧ L 0 = true ∧ L 2 = true ∧ L 4 = true ∧ Inv3 L ∧ J3 w1 (n3 N M) (n3 X Y) bs us L vc vp w' ∧ (L 5 = true → w1.heap.size ≤ bs 2)) rfl rfl (by decide) (by kernel_rfl) ?h0 ?hS ?hs ?he
    case h0 =>
      obtain ⟨g1, g2⟩ := j3_init (W0 := w1) (N := n3 N M) (X := n3 X Y) (L := fun j => (#[true, false, true, false, true, false, false, false, false, false, false, false] : Array Bool).getD j false) (fun j h => by
        match j, h with
        | 0, _ => simp
        | 1, h => simp at h
        | 2, _ => simp
        | 3, h => simp at h
        | 4, _ => simp
        | 5, h => simp at h
        | 6, h => simp at h
        | 7, h => simp at h
        | 8, h => simp at h
        | 9, h => simp at h
        | 10, h => simp at h
        | 11, h => simp at h
        | j + 12, h => simp at h) hHeld
      exact ⟨fun _ => undef, fun _ => undef, fun _ => 0, fun _ => 0, rfl, rfl, rfl, rfl, g1, g2, fun h => by simp at h⟩
    case hS => exact fun L vs w' ⟨_, _, _, _, _, _, _, _, _, h, _⟩ => h.k
    case hs =>
      rintro L vs w' i o ⟨vc, vp, bs, us, rfl, hL0, hL2, hL4, hI3, hT, hbs⟩ hLi hop hall
      have hi : i < 12 := (Array.getElem?_eq_some_iff.1 hop).1
      have hn0 : i ≠ 0 := fun e => by rw [e, hL0] at hLi; cases hLi
      have hn2 : i ≠ 2 := fun e => by rw [e, hL2] at hLi; cases hLi
      have hn4 : i ≠ 4 := fun e => by rw [e, hL4] at hLi; cases hLi
      obtain rfl | rfl | rfl | rfl | rfl | rfl | rfl | rfl | rfl : i = 1 ∨ i = 3 ∨ i = 5 ∨ i = 6 ∨ i = 7 ∨ i = 8 ∨ i = 9 ∨ i = 10 ∨ i = 11 := by omega
      all_goals simp only [List.getElem?_toArray, List.getElem?_cons_succ, List.getElem?_cons_zero, Option.some.injEq] at hop
      all_goals subst hop
      all_goals simp [Region.binds] at hall
      all_goals simp only [Ao.puts, Act.put, List.getElem_toArray, List.getElem_cons_succ, List.getElem_cons_zero, List.setIfInBounds_toArray, List.set_cons_zero, List.set_cons_succ]
      · refine wpOp_step rfl ?_
        intro K' hK
        have h9 := hI3.no (.inl hLi) 0 (by omega)
        have hcall := fun (A : Option Addr) (c : Nat) (es : List Ct) (w2 : World) h1 h2 h3 => hT.call (A := A) (c := c) (es := es) (w1 := w2) 0 (by omega) hLi h9 (fun i h => by omega) (fun i h1 h2 => by
          rcases (show i = 1 ∨ i = 2 by omega) with rfl | rfl
          · exact (hI3.late.1 hLi).1
          · exact (hI3.late.1 hLi).2) h1 h2 h3
        have HK := Lib.hid hK
        have HC := Lib.hid hcall
        have HI := Lib.hid (hI3.set 1 (by omega) (by omega) (by omega))
        have HKS := Lib.hid hT.k.size
        have HBS := Lib.hid hbs
        clear hK hT hcall hI3 hall hbs
        go_simp
        go_at_call 9
        refine (HSA.out _).mono ?_
        rintro e w2 ⟨A, c, es, rfl, hmine, hes, hk⟩
        go_simp
        exact HK.out _ _ ⟨[_, _, _, _, _, _], rfl, up vc 0 _, vp, up bs 0 _, up us 0 _, rfl, by simpa using hL0, by simpa using hL2, by simpa using hL4, HI.out, HC.out A c es w2 hmine hes hk, fun h5 => by simpa [up] using HBS.out (by simpa using h5)⟩
      · refine wpOp_step rfl ?_
        intro K' hK
        have hC1 : L 1 = true := by simp [hall]
        have h9 := hI3.no (.inr (.inl hLi)) 1 (by omega)
        have hcall := fun (A : Option Addr) (c : Nat) (es : List Ct) (w2 : World) h1 h2 h3 => hT.call (A := A) (c := c) (es := es) (w1 := w2) 1 (by omega) hLi h9 (fun i h => by
          obtain rfl : i = 0 := by omega
          exact hC1) (fun i h1 h2 => by
          obtain rfl : i = 2 := by omega
          exact hI3.late.2 hLi) h1 h2 h3
        have HK := Lib.hid hK
        have HC := Lib.hid hcall
        have HI := Lib.hid (hI3.set 3 (fun _ => hC1) (by omega) (by omega))
        have HKS := Lib.hid hT.k.size
        have HBS := Lib.hid hbs
        clear hK hT hcall hI3 hall hbs
        go_simp
        go_at_call 9
        refine (HSB.out _).mono ?_
        rintro e w2 ⟨A, c, es, rfl, hmine, hes, hk⟩
        go_simp
        exact HK.out _ _ ⟨[_, _, _, _, _, _], rfl, up vc 1 _, vp, up bs 1 _, up us 1 _, rfl, by simpa using hL0, by simpa using hL2, by simpa using hL4, HI.out, HC.out A c es w2 hmine hes hk, fun h5 => by simpa [up] using HBS.out (by simpa using h5)⟩
      · refine wpOp_step rfl ?_
        intro K' hK
        have hC3 : L 3 = true := by simp [hall]
        have h9 := hI3.no (.inr (.inr (.inl hLi))) 2 (by omega)
        have hcall := fun (A : Option Addr) (c : Nat) (es : List Ct) (w2 : World) h1 h2 h3 => hT.call (A := A) (c := c) (es := es) (w1 := w2) 2 (by omega) hLi h9 (fun i h => by
          rcases (show i = 0 ∨ i = 1 by omega) with rfl | rfl
          · exact hI3.1 hC3
          · exact hC3) (fun i h1 h2 => by omega) h1 h2 h3
        have HK := Lib.hid hK
        have HC := Lib.hid hcall
        have HI := Lib.hid (hI3.set 5 (by omega) (fun _ => hC3) (by omega))
        have HKS := Lib.hid hT.k.size
        have HBS := Lib.hid hbs
        clear hK hT hcall hI3 hall hbs
        go_simp
        go_at_call 9
        refine (HSA.out _).mono ?_
        rintro e w2 ⟨A, c, es, rfl, hmine, hes, hk⟩
        go_simp
        exact HK.out _ _ ⟨[_, _, _, _, _, _], rfl, up vc 2 _, vp, up bs 2 _, up us 2 _, rfl, by simpa using hL0, by simpa using hL2, by simpa using hL4, HI.out, HC.out A c es w2 hmine hes hk, fun h5 => by simp only [up_at]; exact HKS.out⟩
      · refine wpOp_step rfl ?_
        intro K' hK
        have h9 := hI3.no (.inr (.inr (.inr (.inl hLi)))) 0 (by omega)
        have hnew := hT.new 0 (by omega) h9
        have HK := Lib.hid hK
        have HN := Lib.hid hnew
        have HI := Lib.hid (hI3.set 6 (by omega) (by omega) (by omega))
        have HBS := Lib.hid hbs
        clear hK hT hnew hI3 hall hbs
        go_simp
        exact HK.out _ _ ⟨[_, _, _, _, _, _], rfl, vc, up vp 0 _, bs, us, rfl, by simpa using hL0, by simpa using hL2, by simpa using hL4, HI.out, HN.out, fun h5 => HBS.out (by simpa using h5)⟩
      · refine wpOp_step rfl ?_
        intro K' hK
        have h9 := hI3.no (.inr (.inr (.inr (.inr (.inl hLi))))) 1 (by omega)
        have hnew := hT.new 1 (by omega) h9
        have HK := Lib.hid hK
        have HN := Lib.hid hnew
        have HI := Lib.hid (hI3.set 7 (by omega) (by omega) (by omega))
        have HBS := Lib.hid hbs
        clear hK hT hnew hI3 hall hbs
        go_simp
        exact HK.out _ _ ⟨[_, _, _, _, _, _], rfl, vc, up vp 1 _, bs, us, rfl, by simpa using hL0, by simpa using hL2, by simpa using hL4, HI.out, HN.out, fun h5 => HBS.out (by simpa using h5)⟩
      · refine wpOp_step rfl ?_
        intro K' hK
        have h9 := hI3.no (.inr (.inr (.inr (.inr (.inr hLi))))) 2 (by omega)
        have hnew := hT.new 2 (by omega) h9
        have HK := Lib.hid hK
        have HN := Lib.hid hnew
        have HI := Lib.hid (hI3.set 8 (by omega) (by omega) (by omega))
        have HBS := Lib.hid hbs
        clear hK hT hnew hI3 hall hbs
        go_simp
        exact HK.out _ _ ⟨[_, _, _, _, _, _], rfl, vc, up vp 2 _, bs, us, rfl, by simpa using hL0, by simpa using hL2, by simpa using hL4, HI.out, HN.out, fun h5 => HBS.out (by simpa using h5)⟩
      · have hC1 : L 1 = true := by simp [hall]
        have hC5 : L 5 = true := by simp [hall]
        have hC6 : L 6 = true := by simp [hall]
        have hC7 : L 7 = true := by simp [hall]
        have hC8 : L 8 = true := by simp [hall]
        obtain ⟨A, c, es, hc⟩ := hT.m 0 (by omega) (hC1)
        obtain ⟨q, hq, _, hb, _⟩ := hT.p 0 (by omega) hC6
        have hv := hc.val
        have hb := hb hLi
        have hput := hT.put 0 (by omega) hLi hC6 hv hq
        have y0 := hb.cell 0
        have f0 := hb.frozen 0
        simp only [List.getElem?_toArray, List.getElem?_cons_zero] at y0
        rw [show vc 0 = _ from hv, show vp 0 = _ from hq]
        refine wpOp_step rfl ?_
        intro K' hK
        have HK := Lib.hid hK
        have HP := Lib.hid hput
        have HI := Lib.hid (hI3.set 9 (by omega) (by omega) (fun _ => ⟨hC1, hC5, hC6, hC7, hC8⟩))
        have HBS := Lib.hid hbs
        have HV := Lib.hid hv
        have HQ := Lib.hid hq
        clear hK hT hput hI3 hall hbs hc hb hv hq
        go_simp
        exact HK.out _ _ ⟨[_, _, _, _, _, _], rfl, vc, vp, bs, us, by rw [HV.out, HQ.out], by simpa using hL0, by simpa using hL2, by simpa using hL4, HI.out, HP.out, fun h5 => HBS.out (by simpa using h5)⟩
      · obtain ⟨hC1, hC5, hC6, hC7, hC8⟩ : L 1 = true ∧ L 5 = true ∧ L 6 = true ∧ L 7 = true ∧ L 8 = true := by
          first
            | exact hI3.2.2 0 (by omega) (show L 9 = true by simp [hall])
            | exact hI3.2.2 1 (by omega) (show L 10 = true by simp [hall])
            | exact ⟨by simp [hall], by simp [hall], by simp [hall], by simp [hall], by simp [hall]⟩
        obtain ⟨A, c, es, hc⟩ := hT.m 1 (by omega) (hI3.2.1 hC5)
        obtain ⟨q, hq, _, hb, _⟩ := hT.p 1 (by omega) hC7
        have hv := hc.val
        have hb := hb hLi
        have hput := hT.put 1 (by omega) hLi hC7 hv hq
        have y0 := hb.cell 0
        have f0 := hb.frozen 0
        simp only [List.getElem?_toArray, List.getElem?_cons_zero] at y0
        rw [show vc 1 = _ from hv, show vp 1 = _ from hq]
        refine wpOp_step rfl ?_
        intro K' hK
        have HK := Lib.hid hK
        have HP := Lib.hid hput
        have HI := Lib.hid (hI3.set 10 (by omega) (by omega) (fun _ => ⟨hC1, hC5, hC6, hC7, hC8⟩))
        have HBS := Lib.hid hbs
        have HV := Lib.hid hv
        have HQ := Lib.hid hq
        clear hK hT hput hI3 hall hbs hc hb hv hq
        go_simp
        exact HK.out _ _ ⟨[_, _, _, _, _, _], rfl, vc, vp, bs, us, by rw [HV.out, HQ.out], by simpa using hL0, by simpa using hL2, by simpa using hL4, HI.out, HP.out, fun h5 => HBS.out (by simpa using h5)⟩
      · obtain ⟨hC1, hC5, hC6, hC7, hC8⟩ : L 1 = true ∧ L 5 = true ∧ L 6 = true ∧ L 7 = true ∧ L 8 = true := by
          first
            | exact hI3.2.2 0 (by omega) (show L 9 = true by simp [hall])
            | exact hI3.2.2 1 (by omega) (show L 10 = true by simp [hall])
            | exact ⟨by simp [hall], by simp [hall], by simp [hall], by simp [hall], by simp [hall]⟩
        obtain ⟨A, c, es, hc⟩ := hT.m 2 (by omega) (hC5)
        obtain ⟨q, hq, _, hb, _⟩ := hT.p 2 (by omega) hC8
        have hv := hc.val
        have hb := hb hLi
        have hput := hT.put 2 (by omega) hLi hC8 hv hq
        have y0 := hb.cell 0
        have f0 := hb.frozen 0
        simp only [List.getElem?_toArray, List.getElem?_cons_zero] at y0
        rw [show vc 2 = _ from hv, show vp 2 = _ from hq]
        refine wpOp_step rfl ?_
        intro K' hK
        have HK := Lib.hid hK
        have HP := Lib.hid hput
        have HI := Lib.hid (hI3.set 11 (by omega) (by omega) (fun _ => ⟨hC1, hC5, hC6, hC7, hC8⟩))
        have HBS := Lib.hid hbs
        have HV := Lib.hid hv
        have HQ := Lib.hid hq
        clear hK hT hput hI3 hall hbs hc hb hv hq
        go_simp
        exact HK.out _ _ ⟨[_, _, _, _, _, _], rfl, vc, vp, bs, us, by rw [HV.out, HQ.out], by simpa using hL0, by simpa using hL2, by simpa using hL4, HI.out, HP.out, fun h5 => HBS.out (by simpa using h5)⟩
    case he =>
      rintro L vs w' ⟨vc, vp, bs, us, rfl, _, _, _, _, hT, hbs⟩ hL
      obtain ⟨P, Q, R, A, B, C, ca, cb, cc, ea, eb, ec, b0, b1, b2, u0, u1, u2, e1, e2, e3, hF⟩ := hT.done (hbs (hL 5 (by decide))) (fun i hi => hL i hi)
      have HF := Lib.hid hF
      rw [e1, e2, e3]
      simp only [Ao.puts, Act.put, List.getElem_toArray, List.getElem_cons_succ, List.getElem_cons_zero, List.setIfInBounds_toArray, List.set_cons_zero, List.set_cons_succ]
      clear hT hL hF e1 e2 e3 hbs
      go_wp2_with fail
      go_meet
      exact ⟨P, Q, R, A, B, C, ca, cb, cc, ea, eb, ec, b0, b1, b2, u0, u1, u2, rfl, rfl, rfl, HF⟩
  case rest =>
    obtain ⟨P, Q, R, A, B, C, ca, cb, cc, ea, eb, ec, b0, b1, b2, u0, u1, u2, rfl, rfl, rfl, HF⟩ := hcut
    obtain ⟨a, ha⟩ : ∃ a, i % N = a := ⟨_, rfl⟩
    have haN : a < N := by rw [← ha]; exact Nat.mod_lt _ HN4.out.1
    have hNe : ec.length = N := HF.out.c.mine.el
    obtain ⟨e, he⟩ : ∃ e, ec[a]? = some e := ⟨_, List.getElem?_eq_getElem (by omega)⟩
    have hxe : X[a]? = some e.p := by rw [← HF.out.c.prs]; exact pairs_get he
    have hsz := HSEQ.out a e.p hxe
    simp only [Ct.p] at hsz
    obtain ⟨m, hm⟩ : ∃ m, e.sq.length = m := ⟨_, rfl⟩
    rw [hm] at hsz
    obtain ⟨j, hj⟩ : ∃ j, k % m = j := ⟨_, rfl⟩
    have hjm : j < m := by rw [← hj]; exact Nat.mod_lt _ (by omega)
    obtain ⟨g, hgA, hgb, hgl, hgc, hgf, hset⟩ := mine_set HF.out.c.mine (by have := HN4.out; omega) he (by rw [hm]; exact hjm)
    obtain ⟨x, hx⟩ : ∃ x, e.sq.getD j 0 = x := ⟨_, rfl⟩
    rw [hx] at hgc
    have HIR : Hid (IsRef wc C N ec) := Lib.hid (HF.out.c.mine.isRef (by have := HN4.out; omega))
    obtain ⟨gb, go, e', hCa, hgo, he', hge', q0, q1⟩ := HIR.out.item haN
    have hee : e' = e := by rw [he] at he'; injection he' with he'; exact he'.symm
    subst hee
    rw [hm, hgA] at q1
    have hCN : 1 ≤ N := HN4.out.1
    have r0 : wc.cell? ⟨R, 0, none⟩ = some (.slice C N cc) := HF.out.r.cell 0
    have hmod : (i : Int) % (N : Int) = (a : Int) := by rw [← ha]; simp
    have hmodt : Int.tmod (i : Int) (N : Int) = (a : Int) := by rw [Int.tmod_eq_emod_of_nonneg (by omega)]; exact hmod
    have hmz : ¬ ((N : Int) = 0) := by omega
    have hmz2 : ¬ (N = 0) := by omega
    have ha0 : (0 : Int) ≤ (a : Int) := by omega
    have ha1 : (a : Int) < (N : Int) := by omega
    have hwi : IntKind.i64.wrap (i : Int) = (i : Int) := IntWalk.i64_in _ (by have := HI.out; omega)
    have HSET := Lib.hid hset
    have HAE := Lib.hid he
    have HXE := Lib.hid hxe
    have HXV := Lib.hid hx
    have HJM := Lib.hid hjm
    have HGB := Lib.hid hgb
    have HMM := Lib.hid hm
    have HSZ := Lib.hid hsz
    have HJJ := Lib.hid hj
    have HGL := Lib.hid hgl
    subst hCa
    clear ha haN hNe he hxe hsz hm hj hjm hgb hgl hset hx he' hge' hgA q0 HSEQ HIR
    go_upto_region 4 with fail
    go_cut [12] from 22 to 30 (fun v wx => v = .pointer (some ⟨gb, go + a * 2, none⟩) ∧ ∃ q, wx = wc.drewN q)
    case first =>
      go_quiet (fail)
      go_wp2_with fail
      go_meet
      exact ⟨rfl, _, rfl⟩
    case rest =>
      obtain ⟨rfl, qd, rfl⟩ := hcut
      have HFQ : Hid (Fin3 w1 N M X Y P Q R A B (some ⟨gb, go, none⟩) ca cb cc ea eb ec b0 b1 b2 u0 u1 u2 (wc.drewN qd)) := Lib.hid (HF.out.more ((Keeps.refl _ _).drewN qd))
      have q1' : (wc.drewN qd).cell? ⟨gb, go + a * 2 + 1, none⟩ = some (.slice (some ⟨g, 0, none⟩) m e'.c) := q1
      have hgc' : (wc.drewN qd).cell? ⟨g, j, none⟩ = some (.int .u8 x) := hgc
      have hgf' : (wc.drewN qd).frozen? ⟨g, j, none⟩ = false := hgf
      have hset' : Hid (∀ y : Int, 0 ≤ y → y < 256 → IsRef ((wc.drewN qd).setCell ⟨g, j, none⟩ (.int .u8 y)) (some ⟨gb, go, none⟩) N (ec.set a ⟨e'.nm, e'.A, e'.c, e'.sq.set j y⟩)) := Lib.hid (fun y h0 h1 => by have := (HSET.out y h0 h1).more ((Keeps.refl _ _).drewN qd); exact this)
      generalize wc.drewN qd = W6 at *
      clear q1 hgc hgf HF HSET r0 hmod hmodt hmz hmz2
      have hmodk : (k : Int) % (m : Int) = (j : Int) := by rw [← HJJ.out]; simp
      have hmodkt : Int.tmod (k : Int) (m : Int) = (j : Int) := by rw [Int.tmod_eq_emod_of_nonneg (by omega)]; exact hmodk
      have hwk : wrap64 (k : Int) = (k : Int) := by unfold wrap64; have := HKK.out; omega
      have hmm : ¬ ((m : Int) = 0) := by have := HSZ.out; omega
      have hmm2 : ¬ (m = 0) := by have := HSZ.out; omega
      have hj0 : (0 : Int) ≤ (j : Int) := by omega
      have hj1 : (j : Int) < (m : Int) := by have := HJM.out; omega
      obtain ⟨bx, hbx⟩ : ∃ bx, (x == 65) = bx := ⟨_, rfl⟩
      go_upto_if 46 with fail
      have HBX := Lib.hid hbx
      clear hbx
      go_cut [] from 47 to 58 (fun wx => ∃ y : Int, y ≠ x ∧ 0 ≤ y ∧ y < 256 ∧ wx = W6.setCell ⟨g, j, none⟩ (.int .u8 y))
      case first =>
        cases bx with
        | true =>
          go_wp2
          go_meet
          exact ⟨67, by have := HBX.out; simp at this; omega, by omega, by omega, rfl⟩
        | false =>
          go_wp2
          go_meet
          exact ⟨65, by have := HBX.out; simp at this; omega, by omega, by omega, rfl⟩
      case rest =>
        obtain ⟨y, hyx, hy0, hy1, rfl⟩ := hcut
        have k6 : Keeps (fun b => b = g) W6 (W6.setCell ⟨g, j, none⟩ (.int .u8 y)) := (Keeps.refl _ _).setOwn _ _
        have HRC := Lib.hid (hset'.out y hy0 hy1)
        have HRA : Hid (IsRef (W6.setCell ⟨g, j, none⟩ (.int .u8 y)) A N ea) := Lib.hid ((HFQ.out.a.mine.keepsU HFQ.out.a.ub k6 (fun b hb e => by have := HFQ.out.o1; have := HGB.out; omega)).isRef (by have := HN4.out; omega))
        have HRB : Hid (IsRef (W6.setCell ⟨g, j, none⟩ (.int .u8 y)) B M eb) := Lib.hid ((HFQ.out.b.mine.keepsU HFQ.out.b.ub k6 (fun b hb e => by have := HFQ.out.o2; have := HGB.out; omega)).isRef (by have := HM4.out; omega))
        have hcells : W6.cell? ⟨g, j, none⟩ = some (.int .u8 x) := hgc'
        have far : ∀ (q : Nat) (cs : Array Value) (tt : TypeId), Blk W6 q tt cs → (∀ v ∈ cs.toList, ∀ z, v = .int .u8 z → False) → Blk (W6.setCell ⟨g, j, none⟩ (.int .u8 y)) q tt cs := fun q cs tt hb hno => by
          refine hb.keeps k6 (fun e => ?_)
          subst e
          rw [hb.cell] at hcells
          exact hno _ (List.mem_of_getElem? (by simpa using hcells)) x rfl
        have HP9 := Lib.hid (far P _ _ HFQ.out.p (fun v hv z e => by simp at hv; rw [hv] at e; cases e))
        have HP10 := Lib.hid (far Q _ _ HFQ.out.q (fun v hv z e => by simp at hv; rw [hv] at e; cases e))
        have HP11 := Lib.hid (far R _ _ HFQ.out.r (fun v hv z e => by simp at hv; rw [hv] at e; cases e))
        have HKF1 : Hid (Keeps (fun _ => False) w (W6.setCell ⟨g, j, none⟩ (.int .u8 y))) := Lib.hid ((HK1.out.trans HFQ.out.k).setCell (.inr (by have h1 := HFQ.out.lo; have h2 := HGB.out; have h3 := HK1.out.size; show w.heap.size ≤ g; omega)) _)
        have HB42 : Hid (Blk (W6.setCell ⟨g, j, none⟩ (.int .u8 y)) p4 25 #[.int .u8 (K : Int), .int .u8 (l0 : Int), .int .u8 (l1 : Int), .int .u8 (l2 : Int), .int .u8 (l3 : Int), .int .u32 (seed : Int)]) := Lib.hid ((HB41.out.keeps HFQ.out.k id).keeps k6 (fun e => by have h1 := HFQ.out.lo; have h2 := HGB.out; have h3 := HB41.out.lt; omega))
        have HPC : Hid (pairs (ec.set a ⟨e'.nm, e'.A, e'.c, e'.sq.set j y⟩) ≠ X) := Lib.hid (fun h => by
          have h1 : (pairs (ec.set a ⟨e'.nm, e'.A, e'.c, e'.sq.set j y⟩))[a]? = some (e'.nm, e'.sq.set j y) := by
            have h2 := (List.getElem?_eq_some_iff.1 HAE.out).1
            simp [pairs, Ct.p, List.getElem?_set, h2]
          rw [h, HXE.out] at h1
          injection h1 with h1
          have h3 : e'.sq = e'.sq.set j y := congrArg Prod.snd h1
          have h4 := HXV.out
          rw [h3] at h4
          have h5 : j < e'.sq.length := by rw [HMM.out]; exact HJM.out
          rw [List.getD_eq_getElem?_getD, List.getElem?_set_self h5] at h4
          exact hyx (by simpa using h4))
        clear far hcells k6 hset' hgc' hgf' q1' hmodk hmodkt hmm hmm2 hj0 hj1
        generalize W6.setCell ⟨g, j, none⟩ (.int .u8 y) = W7 at HRC HRA HRB HP9 HP10 HP11 HKF1 HB42 ⊢
        obtain ⟨ec', hec'⟩ : ∃ ec', ec.set a ⟨e'.nm, e'.A, e'.c, e'.sq.set j y⟩ = ec' := ⟨_, rfl⟩
        rw [hec'] at HRC HPC
        have HPA : Hid (pairs ea = X) := Lib.hid HFQ.out.a.prs
        have HPB : Hid (pairs eb = Y) := Lib.hid HFQ.out.b.prs
        obtain ⟨D, hD⟩ : ∃ D, decide (X = Y) = D := ⟨_, rfl⟩
        have hT : ((strOfNums (text X)).toList == (strOfNums (text Y)).toList) = D := by
          rw [str_eq HXX.out.2.2 HYY.out.2.2, ← hD, decide_eq_decide]
          exact ⟨fun h => text_inj HXX.out.2.1 HYY.out.2.1 h, fun h => by rw [h]⟩
        have HS1 : Hid (∀ W B' cb' eb', Keeps (fun _ => False) W7 W → IsRef W B' N eb' → pairs eb' = X → Calls Try.prog 13 #[.agg #[.slice A N ca], .agg #[.slice B' N cb']] W fun r w' => r = .returned (.bool true) ∧ Keeps (fun _ => False) W w') := Lib.hid (fun W B' cb' eb' hk hr hp => by
          have := same_ A B' N N ca cb' ea eb' W (HRA.out.more hk) hr
          rw [HPA.out, hp] at this
          simpa using this)
        have HS2 : Hid (∀ W, Keeps (fun _ => False) W7 W → Calls Try.prog 13 #[.agg #[.slice A N ca], .agg #[.slice (some ⟨gb, go, none⟩) N cc]] W fun r w' => r = .returned (.bool false) ∧ Keeps (fun _ => False) W w') := Lib.hid (fun W hk => by
          have := same_ A (some ⟨gb, go, none⟩) N N ca cc ea ec' W (HRA.out.more hk) (HRC.out.more hk)
          rw [HPA.out, decide_eq_false (fun h => HPC.out h.symm)] at this
          exact this)
        have HS3 : Hid (∀ W, Keeps (fun _ => False) W7 W → Calls Try.prog 13 #[.agg #[.slice A N ca], .agg #[.slice B M cb]] W fun r w' => r = .returned (.bool D) ∧ Keeps (fun _ => False) W w') := Lib.hid (fun W hk => by
          have := same_ A B N M ca cb ea eb W (HRA.out.more hk) (HRB.out.more hk)
          rw [HPA.out, HPB.out, hD] at this
          exact this)
        obtain ⟨SX, hSX⟩ : ∃ SX, strOfNums (text X) = SX := ⟨_, rfl⟩
        obtain ⟨SY, hSY⟩ : ∃ SY, strOfNums (text Y) = SY := ⟨_, rfl⟩
        rw [hSX, hSY] at hT
        obtain ⟨mx, hmx⟩ : ∃ mx, (text X).length = mx := ⟨_, rfl⟩
        obtain ⟨my, hmy⟩ : ∃ my, (text Y).length = my := ⟨_, rfl⟩
        have HTX : Hid (∀ W, Keeps (fun _ => False) W7 W → Calls Try.prog 11 #[.agg #[.slice A N ca]] W fun r w' => ∃ A c, r = .returned (.slice A mx c) ∧ Lies w' A (text X) ∧ Keeps (fun _ => False) W w') := Lib.hid (fun W hk => by
          have := text_ A N ca ea W (HRA.out.more hk) (by rw [HPA.out]; have := HXX.out.1; have := HN4.out; omega)
          refine this.mono fun r w' h => ?_
          obtain ⟨A', c', h1, h2, h3⟩ := h
          rw [HPA.out] at h1 h2
          rw [hmx] at h1
          exact ⟨A', c', h1, Lies.of_own h2, h3⟩)
        have HTY : Hid (∀ W, Keeps (fun _ => False) W7 W → Calls Try.prog 11 #[.agg #[.slice B M cb]] W fun r w' => ∃ A c, r = .returned (.slice A my c) ∧ Lies w' A (text Y) ∧ Keeps (fun _ => False) W w') := Lib.hid (fun W hk => by
          have := text_ B M cb eb W (HRB.out.more hk) (by rw [HPB.out]; have := HYY.out.1; have := HM4.out; omega)
          refine this.mono fun r w' h => ?_
          obtain ⟨A', c', h1, h2, h3⟩ := h
          rw [HPB.out] at h1 h2
          rw [hmy] at h1
          exact ⟨A', c', h1, Lies.of_own h2, h3⟩)
        have HSX := Lib.hid hSX
        have HSY := Lib.hid hSY
        have HMX := Lib.hid hmx
        have HMY := Lib.hid hmy
        have hDD : (D == D) = true := by simp
        clear hec' hD hSX hSY hmx hmy hyx hy0 hy1 HBX HFQ HAE HXE HXV HJM HGB HMM HSZ HJJ HGL HPA HPB HSB
        have KD : Hid (Keeps (fun _ => False) W7 W7.drew) := (Keeps.refl (fun _ => False) W7).drewN 1
        go_upto_region 9 with fail
        refine wp_region_noPanic ?_
        refine wp_region_held_drew (S := fun w' => Keeps (fun _ => False) W7 w') (by kernel_rfl) KD.out (fun hHeld => ?_)
        refine wpAnyH_take (i := 0) (v := ?vz0x4) rfl (by kernel_rfl) (by kernel_rfl) (by kernel_rfl) (fun _ _ _ h => h) (Or.inl ⟨by rfl, ?yz0x4⟩) hHeld ?rz0x4
        case yz0x4 => (intro w' hSw; have f0 := (HP9.out.keeps hSw id).cell 0; go_simp; try with_reducible rfl)
        simp only [Act.put, List.getElem_toArray, List.getElem_cons_succ, List.getElem_cons_zero, List.setIfInBounds_toArray, List.set_cons_zero, List.set_cons_succ]
        refine wpAnyH_take (i := 1) (v := ?vz1x5) rfl (by kernel_rfl) (by kernel_rfl) (by kernel_rfl) (fun _ _ _ h => h) (Or.inl ⟨by rfl, ?yz1x5⟩) hHeld ?rz1x5
        case yz1x5 => (intro w' hSw; have hb := HB42.out.keeps hSw id; have y0 := hb.cell 0; have y1 := hb.cell 1; have y2 := hb.cell 2; have y3 := hb.cell 3; have y4 := hb.cell 4; have y5 := hb.cell 5; simp only [List.getElem?_toArray, List.getElem?_cons_zero, List.getElem?_cons_succ] at y0 y1 y2 y3 y4 y5; go_simp; try with_reducible rfl)
        simp only [Act.put, List.getElem_toArray, List.getElem_cons_succ, List.getElem_cons_zero, List.setIfInBounds_toArray, List.set_cons_zero, List.set_cons_succ]
        refine wpAnyH_ready (rs := [2]) (by kernel_rfl) (by simp) ?_
        refine AllReadyH.cons rfl (fun KR hK => ?_) AllReadyH.nil
        go_simp
        refine (HSA.out _).mono ?_
        rintro r w8 ⟨A8, c8, es8, rfl, hm8, hp8, hk⟩
        have HR8 := Lib.hid (hm8.isRef (by have := HN4.out; omega))
        have HP8 := Lib.hid hp8
        clear hm8 hp8
        dsimp only
        refine hK.out _ _ (hHeld.trans hk) (fun hHeld => ?_)
        clear hK KR hk
        try simp only [Act.put, List.getElem_toArray, List.getElem_cons_succ, List.getElem_cons_zero, List.setIfInBounds_toArray, List.set_cons_zero, List.set_cons_succ]
        refine wpAnyH_ready (rs := [3]) (by kernel_rfl) (by simp) ?_
        refine AllReadyH.cons rfl (fun KR hK => ?_) AllReadyH.nil
        go_simp
        refine (HS1.out _ A8 c8 es8 hHeld HR8.out HP8.out).mono ?_
        rintro r w9 ⟨rfl, hk⟩
        dsimp only
        refine hK.out _ _ (hHeld.trans hk) (fun hHeld => ?_)
        clear hK KR hk
        try simp only [Act.put, List.getElem_toArray, List.getElem_cons_succ, List.getElem_cons_zero, List.setIfInBounds_toArray, List.set_cons_zero, List.set_cons_succ]
        refine wpAnyH_take (i := 4) (v := ?vz4x6) rfl (by kernel_rfl) (by kernel_rfl) (by kernel_rfl) (fun _ _ _ h => h) (Or.inl ⟨by rfl, ?yz4x6⟩) hHeld ?rz4x6
        case yz4x6 => (intro w' hSw; go_simp; try with_reducible rfl)
        simp only [Act.put, List.getElem_toArray, List.getElem_cons_succ, List.getElem_cons_zero, List.setIfInBounds_toArray, List.set_cons_zero, List.set_cons_succ]
        refine wpAnyH_take (i := 5) (v := ?vz5x7) rfl (by kernel_rfl) (by kernel_rfl) (by kernel_rfl) (fun _ _ _ h => h) (Or.inl ⟨by rfl, ?yz5x7⟩) hHeld ?rz5x7
        case yz5x7 => (intro w' hSw; have f0 := (HP9.out.keeps hSw id).cell 0; go_simp; try with_reducible rfl)
        simp only [Act.put, List.getElem_toArray, List.getElem_cons_succ, List.getElem_cons_zero, List.setIfInBounds_toArray, List.set_cons_zero, List.set_cons_succ]
        refine wpAnyH_take (i := 6) (v := ?vz6x8) rfl (by kernel_rfl) (by kernel_rfl) (by kernel_rfl) (fun _ _ _ h => h) (Or.inl ⟨by rfl, ?yz6x8⟩) hHeld ?rz6x8
        case yz6x8 => (intro w' hSw; have f0 := (HP11.out.keeps hSw id).cell 0; go_simp; try with_reducible rfl)
        simp only [Act.put, List.getElem_toArray, List.getElem_cons_succ, List.getElem_cons_zero, List.setIfInBounds_toArray, List.set_cons_zero, List.set_cons_succ]
        refine wpAnyH_ready (rs := [7]) (by kernel_rfl) (by simp) ?_
        refine AllReadyH.cons rfl (fun KR hK => ?_) AllReadyH.nil
        go_simp
        refine (HS2.out _ hHeld).mono ?_
        rintro r w10 ⟨rfl, hk⟩
        dsimp only
        refine hK.out _ _ (hHeld.trans hk) (fun hHeld => ?_)
        clear hK KR hk
        try simp only [Act.put, List.getElem_toArray, List.getElem_cons_succ, List.getElem_cons_zero, List.setIfInBounds_toArray, List.set_cons_zero, List.set_cons_succ]
        refine wpAnyH_take (i := 8) (v := ?vz8x9) rfl (by kernel_rfl) (by kernel_rfl) (by kernel_rfl) (fun _ _ _ h => h) (Or.inl ⟨by rfl, ?yz8x9⟩) hHeld ?rz8x9
        case yz8x9 => (intro w' hSw; go_simp; try with_reducible rfl)
        simp only [Act.put, List.getElem_toArray, List.getElem_cons_succ, List.getElem_cons_zero, List.setIfInBounds_toArray, List.set_cons_zero, List.set_cons_succ]
        refine wpAnyH_take (i := 9) (v := ?vz9x10) rfl (by kernel_rfl) (by kernel_rfl) (by kernel_rfl) (fun _ _ _ h => h) (Or.inl ⟨by rfl, ?yz9x10⟩) hHeld ?rz9x10
        case yz9x10 => (intro w' hSw; go_simp; try with_reducible rfl)
        simp only [Act.put, List.getElem_toArray, List.getElem_cons_succ, List.getElem_cons_zero, List.setIfInBounds_toArray, List.set_cons_zero, List.set_cons_succ]
        refine wpAnyH_take (i := 10) (v := ?vz10x11) rfl (by kernel_rfl) (by kernel_rfl) (by kernel_rfl) (fun _ _ _ h => h) (Or.inl ⟨by rfl, ?yz10x11⟩) hHeld ?rz10x11
        case yz10x11 => (intro w' hSw; go_simp; try with_reducible rfl)
        simp only [Act.put, List.getElem_toArray, List.getElem_cons_succ, List.getElem_cons_zero, List.setIfInBounds_toArray, List.set_cons_zero, List.set_cons_succ]
        refine wpAnyH_take (i := 11) (v := ?vz11x12) rfl (by kernel_rfl) (by kernel_rfl) (by kernel_rfl) (fun _ _ _ h => h) (Or.inl ⟨by rfl, ?yz11x12⟩) hHeld ?rz11x12
        case yz11x12 => (intro w' hSw; have f0 := (HP9.out.keeps hSw id).cell 0; go_simp; try with_reducible rfl)
        simp only [Act.put, List.getElem_toArray, List.getElem_cons_succ, List.getElem_cons_zero, List.setIfInBounds_toArray, List.set_cons_zero, List.set_cons_succ]
        refine wpAnyH_take (i := 14) (v := ?vz14x13) rfl (by kernel_rfl) (by kernel_rfl) (by kernel_rfl) (fun _ _ _ h => h) (Or.inl ⟨by rfl, ?yz14x13⟩) hHeld ?rz14x13
        case yz14x13 => (intro w' hSw; have f0 := (HP9.out.keeps hSw id).cell 0; go_simp; try with_reducible rfl)
        simp only [Act.put, List.getElem_toArray, List.getElem_cons_succ, List.getElem_cons_zero, List.setIfInBounds_toArray, List.set_cons_zero, List.set_cons_succ]
        refine wpAnyH_take (i := 12) (v := ?vz12x14) rfl (by kernel_rfl) (by kernel_rfl) (by kernel_rfl) (fun _ _ _ h => h) (Or.inl ⟨by rfl, ?yz12x14⟩) hHeld ?rz12x14
        case yz12x14 => (intro w' hSw; have f0 := (HP10.out.keeps hSw id).cell 0; go_simp; try with_reducible rfl)
        simp only [Act.put, List.getElem_toArray, List.getElem_cons_succ, List.getElem_cons_zero, List.setIfInBounds_toArray, List.set_cons_zero, List.set_cons_succ]
        refine wpAnyH_take (i := 17) (v := ?vz17x15) rfl (by kernel_rfl) (by kernel_rfl) (by kernel_rfl) (fun _ _ _ h => h) (Or.inl ⟨by rfl, ?yz17x15⟩) hHeld ?rz17x15
        case yz17x15 => (intro w' hSw; have f0 := (HP10.out.keeps hSw id).cell 0; go_simp; try with_reducible rfl)
        simp only [Act.put, List.getElem_toArray, List.getElem_cons_succ, List.getElem_cons_zero, List.setIfInBounds_toArray, List.set_cons_zero, List.set_cons_succ]
        refine wpAnyH_ready (rs := [13]) (by kernel_rfl) (by simp) ?_
        refine AllReadyH.cons rfl (fun KR hK => ?_) AllReadyH.nil
        go_simp
        refine (HS3.out _ hHeld).mono ?_
        rintro r w11 ⟨rfl, hk⟩
        dsimp only
        refine hK.out _ _ (hHeld.trans hk) (fun hHeld => ?_)
        clear hK KR hk
        try simp only [Act.put, List.getElem_toArray, List.getElem_cons_succ, List.getElem_cons_zero, List.setIfInBounds_toArray, List.set_cons_zero, List.set_cons_succ]
        refine wpAnyH_ready (rs := [15]) (by kernel_rfl) (by simp) ?_
        refine AllReadyH.cons rfl (fun KR hK => ?_) AllReadyH.nil
        go_simp
        refine (HTX.out _ hHeld).mono ?_
        rintro r w12 ⟨A12, c12, rfl, hl12, hk⟩
        have HL12 := Lib.hid hl12
        have HK12 := Lib.hid (hHeld.trans hk)
        clear hl12
        dsimp only
        refine hK.out _ _ (hHeld.trans hk) (fun hHeld => ?_)
        clear hK KR hk
        try simp only [Act.put, List.getElem_toArray, List.getElem_cons_succ, List.getElem_cons_zero, List.setIfInBounds_toArray, List.set_cons_zero, List.set_cons_succ]
        refine Ao.wpAnyH_as (S' := fun w' => Keeps (fun _ => False) w12 w') (fun w' k => hHeld.trans k) _ _ _ _ ?_
        replace hHeld : Keeps (fun _ => False) w12 w12 := Keeps.refl _ _
        refine wpAnyH_take (i := 16) (v := ?vz16x16) rfl (by kernel_rfl) (by kernel_rfl) (by kernel_rfl) (fun _ _ _ h => h) (Or.inl ⟨by rfl, ?yz16x16⟩) hHeld ?rz16x16
        case yz16x16 => (intro w' hSw; have hcv := (HL12.out.keeps hSw (fun _ _ _ => id)).str_n (P := Try.prog) mx HMX.out 31 9 5 c12 Try.underlying31 Try.underlying5 Try.underlying9; rw [HSX.out] at hcv; go_simp; try with_reducible rfl)
        simp only [Act.put, List.getElem_toArray, List.getElem_cons_succ, List.getElem_cons_zero, List.setIfInBounds_toArray, List.set_cons_zero, List.set_cons_succ]
        refine wpAnyH_ready (rs := [18]) (by kernel_rfl) (by simp) ?_
        refine AllReadyH.cons rfl (fun KR hK => ?_) AllReadyH.nil
        go_simp
        refine (HTY.out _ (HK12.out.trans hHeld)).mono ?_
        rintro r w13 ⟨A13, c13, rfl, hl13, hk⟩
        have HL13 := Lib.hid hl13
        have HK13 := Lib.hid (HK12.out.trans (hHeld.trans hk))
        clear hl13
        dsimp only
        refine hK.out _ _ (hHeld.trans hk) (fun hHeld => ?_)
        clear hK KR hk
        try simp only [Act.put, List.getElem_toArray, List.getElem_cons_succ, List.getElem_cons_zero, List.setIfInBounds_toArray, List.set_cons_zero, List.set_cons_succ]
        refine Ao.wpAnyH_as (S' := fun w' => Keeps (fun _ => False) w13 w') (fun w' k => hHeld.trans k) _ _ _ _ ?_
        replace hHeld : Keeps (fun _ => False) w13 w13 := Keeps.refl _ _
        refine wpAnyH_take (i := 19) (v := ?vz19x17) rfl (by kernel_rfl) (by kernel_rfl) (by kernel_rfl) (fun _ _ _ h => h) (Or.inl ⟨by rfl, ?yz19x17⟩) hHeld ?rz19x17
        case yz19x17 => (intro w' hSw; have hcv := (HL13.out.keeps hSw (fun _ _ _ => id)).str_n (P := Try.prog) my HMY.out 31 9 5 c13 Try.underlying31 Try.underlying5 Try.underlying9; rw [HSY.out] at hcv; go_simp; try with_reducible rfl)
        simp only [Act.put, List.getElem_toArray, List.getElem_cons_succ, List.getElem_cons_zero, List.setIfInBounds_toArray, List.set_cons_zero, List.set_cons_succ]
        refine wpAnyH_take (i := 20) (v := ?vz20x18) rfl (by kernel_rfl) (by kernel_rfl) (by kernel_rfl) (fun _ _ _ h => h) (Or.inl ⟨by rfl, ?yz20x18⟩) hHeld ?rz20x18
        case yz20x18 => (intro w' hSw; go_simp; try with_reducible rfl)
        simp only [Act.put, List.getElem_toArray, List.getElem_cons_succ, List.getElem_cons_zero, List.setIfInBounds_toArray, List.set_cons_zero, List.set_cons_succ]
        refine wpAnyH_take (i := 21) (v := ?vz21x19) rfl (by kernel_rfl) (by kernel_rfl) (by kernel_rfl) (fun _ _ _ h => h) (Or.inl ⟨by rfl, ?yz21x19⟩) hHeld ?rz21x19
        case yz21x19 => (intro w' hSw; go_simp; try with_reducible rfl)
        simp only [Act.put, List.getElem_toArray, List.getElem_cons_succ, List.getElem_cons_zero, List.setIfInBounds_toArray, List.set_cons_zero, List.set_cons_succ]
        refine wpAnyH_take (i := 22) (v := ?vz22x20) rfl (by kernel_rfl) (by kernel_rfl) (by kernel_rfl) (fun _ _ _ h => h) (Or.inl ⟨by rfl, ?yz22x20⟩) hHeld ?rz22x20
        case yz22x20 => (intro w' hSw; go_simp; try with_reducible rfl)
        simp only [Act.put, List.getElem_toArray, List.getElem_cons_succ, List.getElem_cons_zero, List.setIfInBounds_toArray, List.set_cons_zero, List.set_cons_succ]
        refine wpAnyH_take (i := 23) (v := ?vz23x21) rfl (by kernel_rfl) (by kernel_rfl) (by kernel_rfl) (fun _ _ _ h => h) (Or.inl ⟨by rfl, ?yz23x21⟩) hHeld ?rz23x21
        case yz23x21 => (intro w' hSw; go_simp; try with_reducible rfl)
        simp only [Act.put, List.getElem_toArray, List.getElem_cons_succ, List.getElem_cons_zero, List.setIfInBounds_toArray, List.set_cons_zero, List.set_cons_succ]
        have HKF := Lib.hid hHeld
        refine wpAnyH_done (by kernel_rfl) ?_ _
        clear hHeld
        refine NoPanic.normal ?_
        go_wp2
        go_ret
        exact ⟨by simp, HKF1.out.trans (HK13.out.trans HKF.out)⟩
end Go.Proofs.Ytbekdcakmeejaaa.Ct
