/- Two ways for bytes that two calls make, each on its way into a variable of its own, whichever operation comes up next. -/
import Derived.Test.YtankkadfaokaoaaDsTwo
namespace Go.Proofs.Ytankkadfaokaoaa.Ds
open Go.RowKit Go.Proofs.Ytankkadfaokaoaa.Gen Go.Proofs.Ytankkadfaokaoaa.Wr Go.Proofs.Ytankkadfaokaoaa.It Go.Proofs.Ytankkadfaokaoaa.Ir Go.Proofs.Ytankkadfaokaoaa.Ib Go.Proofs.Ytankkadfaokaoaa.Tw Go.Proofs.Ytankkadfaokaoaa.Hr Go.Proofs.Ytankkadfaokaoaa.Hn Go.Proofs.Ytankkadfaokaoaa.Hk Go.Proofs.Ytankkadfaokaoaa.Ln

structure TwoA (d : E) (a : E) (Z : Nat) (X : (Nat → Bool) → World → Prop) (L : Nat → Bool) (s1 s3 s4 s5 : Value) (w : World) : Prop where
  x : X L w
  sz : Z ≤ w.heap.size
  i : L 1 = true → ∃ A n c, s1 = .agg (av A n c d) ∧ Ents w A n d.d.L ∧ ∀ b o, A = some ⟨b, o, none⟩ → Z ≤ b
  e : L 3 = true → ∃ A n c, s3 = .agg (av A n c a) ∧ Ents w A n a.d.L ∧ ∀ b o, A = some ⟨b, o, none⟩ → Z ≤ b
  v : L 4 = true → ∃ p cs, s4 = .pointer (some ⟨p, 0, none⟩) ∧ Z ≤ p ∧ Blk w p 34 cs ∧ (L 6 = false → cs = z8) ∧ (L 6 = true → s1 = .agg cs)
  u : L 5 = true → ∃ p cs, s5 = .pointer (some ⟨p, 0, none⟩) ∧ Z ≤ p ∧ Blk w p 34 cs ∧ (L 7 = false → cs = z8) ∧ (L 7 = true → s3 = .agg cs)
  x14 : L 1 = true → L 4 = true → Off s1 s4
  x15 : L 1 = true → L 5 = true → Off s1 s5
  x34 : L 3 = true → L 4 = true → Off s3 s4
  x35 : L 3 = true → L 5 = true → Off s3 s5
  l6 : L 6 = true → L 1 = true ∧ L 4 = true
  l7 : L 7 = true → L 3 = true ∧ L 5 = true
  vu : L 4 = true → L 5 = true → ∀ p q, s4 = .pointer (some ⟨p, 0, none⟩) → s5 = .pointer (some ⟨q, 0, none⟩) → p ≠ q
section
variable {d : E} {a : E} {Z : Nat} {X : (Nat → Bool) → World → Prop} {L : Nat → Bool} {s1 s3 s4 s5 : Value} {w w1 : World} {S : Nat → Prop}
theorem TwoA.call1 (h : TwoA d a Z X L s1 s3 s4 s5 w) (hL : L 1 = false) (k : Keeps S w w1) (hS : ∀ j, Z ≤ j → ¬ S j) (hx : X (put1 L 1) w1) {A : Option Addr} {n c : Nat} (hE : Ents w1 A n d.d.L) (hA : ∀ b o, A = some ⟨b, o, none⟩ → w.heap.size ≤ b) :
    TwoA d a Z X (put1 L 1) (.agg (av A n c d)) s3 s4 s5 w1 := by
  have hz := h.sz
  have hoff : ∀ s, (∃ p cs t, s = .pointer (some ⟨p, 0, none⟩) ∧ Blk w p t cs) → Off (.agg (av A n c d)) s := by
    rintro s ⟨p, cs, t, rfl, hb⟩ b o q _ hr hq
    have hr' : A = some ⟨b, o, none⟩ := hr
    have := hA b o hr'
    have := hb.lt
    injection hq with hq
    injection hq with hq
    injection hq with hq
    omega
  have h6 : L 6 = false := by
    cases h6 : L 6 with
    | false => rfl
    | true => rw [(h.l6 h6).1] at hL; cases hL
  refine ⟨hx, Nat.le_trans hz k.size, fun _ => ⟨A, n, c, rfl, hE, fun b o e => Nat.le_trans hz (hA b o e)⟩, fun h3 => ?_, fun h4 => ?_, fun h5 => ?_, fun _ h4 => ?_, fun _ h5 => ?_, fun h3 h4 => ?_, fun h3 h5 => ?_, fun h => by simp [put1, h6] at h, fun h7 => ?_, by simpa [put1] using h.vu⟩
  · obtain ⟨A1, n1, c1, e1, e2, e3⟩ := h.e (by simpa [put1] using h3)
    exact ⟨A1, n1, c1, e1, e2.keeps k (fun _ b o e => hS b (e3 b o e)), e3⟩
  · obtain ⟨p, cs, e1, e2, e3, e4, e5⟩ := h.v (by simpa [put1] using h4)
    exact ⟨p, cs, e1, e2, e3.keeps k (hS p e2), fun _ => e4 h6, fun h => by simp [put1, h6] at h⟩
  · obtain ⟨p, cs, e1, e2, e3, e4, e5⟩ := h.u (by simpa [put1] using h5)
    exact ⟨p, cs, e1, e2, e3.keeps k (hS p e2), fun h => e4 (by simpa [put1] using h), fun h => e5 (by simpa [put1] using h)⟩
  · obtain ⟨p, cs, e1, e2, e3, _⟩ := h.v (by simpa [put1] using h4)
    exact hoff _ ⟨p, cs, _, e1, e3⟩
  · obtain ⟨p, cs, e1, e2, e3, _⟩ := h.u (by simpa [put1] using h5)
    exact hoff _ ⟨p, cs, _, e1, e3⟩
  · exact h.x34 (by simpa [put1] using h3) (by simpa [put1] using h4)
  · exact h.x35 (by simpa [put1] using h3) (by simpa [put1] using h5)
  · have := h.l7 (by simpa [put1] using h7)
    simpa [put1] using this
theorem TwoA.call3 (h : TwoA d a Z X L s1 s3 s4 s5 w) (hL : L 3 = false) (k : Keeps S w w1) (hS : ∀ j, Z ≤ j → ¬ S j) (hx : X (put1 L 3) w1) {A : Option Addr} {n c : Nat} (hE : Ents w1 A n a.d.L) (hA : ∀ b o, A = some ⟨b, o, none⟩ → w.heap.size ≤ b) :
    TwoA d a Z X (put1 L 3) s1 (.agg (av A n c a)) s4 s5 w1 := by
  have hz := h.sz
  have hoff : ∀ s, (∃ p cs t, s = .pointer (some ⟨p, 0, none⟩) ∧ Blk w p t cs) → Off (.agg (av A n c a)) s := by
    rintro s ⟨p, cs, t, rfl, hb⟩ b o q _ hr hq
    have hr' : A = some ⟨b, o, none⟩ := hr
    have := hA b o hr'
    have := hb.lt
    injection hq with hq
    injection hq with hq
    injection hq with hq
    omega
  have h7 : L 7 = false := by
    cases h7 : L 7 with
    | false => rfl
    | true => rw [(h.l7 h7).1] at hL; cases hL
  refine ⟨hx, Nat.le_trans hz k.size, fun h1 => ?_, fun _ => ⟨A, n, c, rfl, hE, fun b o e => Nat.le_trans hz (hA b o e)⟩, fun h4 => ?_, fun h5 => ?_, fun h1 h4 => ?_, fun h1 h5 => ?_, fun _ h4 => ?_, fun _ h5 => ?_, fun h6 => ?_, fun h => by simp [put1, h7] at h, by simpa [put1] using h.vu⟩
  · obtain ⟨A1, n1, c1, e1, e2, e3⟩ := h.i (by simpa [put1] using h1)
    exact ⟨A1, n1, c1, e1, e2.keeps k (fun _ b o e => hS b (e3 b o e)), e3⟩
  · obtain ⟨p, cs, e1, e2, e3, e4, e5⟩ := h.v (by simpa [put1] using h4)
    exact ⟨p, cs, e1, e2, e3.keeps k (hS p e2), fun h => e4 (by simpa [put1] using h), fun h => e5 (by simpa [put1] using h)⟩
  · obtain ⟨p, cs, e1, e2, e3, e4, e5⟩ := h.u (by simpa [put1] using h5)
    exact ⟨p, cs, e1, e2, e3.keeps k (hS p e2), fun _ => e4 h7, fun h => by simp [put1, h7] at h⟩
  · exact h.x14 (by simpa [put1] using h1) (by simpa [put1] using h4)
  · exact h.x15 (by simpa [put1] using h1) (by simpa [put1] using h5)
  · obtain ⟨p, cs, e1, e2, e3, _⟩ := h.v (by simpa [put1] using h4)
    exact hoff _ ⟨p, cs, _, e1, e3⟩
  · obtain ⟨p, cs, e1, e2, e3, _⟩ := h.u (by simpa [put1] using h5)
    exact hoff _ ⟨p, cs, _, e1, e3⟩
  · have := h.l6 (by simpa [put1] using h6)
    simpa [put1] using this
theorem TwoA.new4 (h : TwoA d a Z X L s1 s3 s4 s5 w) (hL : L 4 = false) (hx : X (put1 L 4) (w.alloc (.cells z8 34))) :
    TwoA d a Z X (put1 L 4) s1 s3 (.pointer (some ⟨w.heap.size, 0, none⟩)) s5 (w.alloc (.cells z8 34)) := by
  have k : Keeps (fun _ => False) w (w.alloc (.cells z8 34)) := (Keeps.refl _ _).alloc _
  have h6 : L 6 = false := by
    cases h6 : L 6 with
    | false => rfl
    | true => rw [(h.l6 h6).2] at hL; cases hL
  refine ⟨hx, Nat.le_trans h.sz k.size, fun h1 => ?_, fun h3 => ?_, fun h4 => ?_, fun h5 => ?_, fun h1 _ => ?_, fun h1 h5 => ?_, fun h3 _ => ?_, fun h3 h5 => ?_, fun h6' => ?_, fun h7 => ?_, fun _ h5 p q hp hq => ?_⟩
  · obtain ⟨A1, n1, c1, e1, e2, e3⟩ := h.i (by simpa [put1] using h1)
    exact ⟨A1, n1, c1, e1, e2.more k, e3⟩
  · obtain ⟨A1, n1, c1, e1, e2, e3⟩ := h.e (by simpa [put1] using h3)
    exact ⟨A1, n1, c1, e1, e2.more k, e3⟩
  · exact ⟨w.heap.size, z8, rfl, h.sz, Blk.new _ _ _, fun _ => rfl, fun h => by simp [put1, h6] at h⟩
  · obtain ⟨p, cs, e1, e2, e3, e4, e5⟩ := h.u (by simpa [put1] using h5)
    exact ⟨p, cs, e1, e2, e3.keeps k id, fun h => e4 (by simpa [put1] using h), fun h => e5 (by simpa [put1] using h)⟩
  · obtain ⟨A1, n1, c1, rfl, e2, e3⟩ := h.i (by simpa [put1] using h1)
    exact off_new rfl e2
  · exact h.x15 (by simpa [put1] using h1) (by simpa [put1] using h5)
  · obtain ⟨A1, n1, c1, rfl, e2, e3⟩ := h.e (by simpa [put1] using h3)
    exact off_new rfl e2
  · exact h.x35 (by simpa [put1] using h3) (by simpa [put1] using h5)
  · simp [put1, h6] at h6'
  · have := h.l7 (by simpa [put1] using h7)
    simpa [put1] using this
  · obtain ⟨q', cs, f1, _, f3, _⟩ := h.u (by simpa [put1] using h5)
    rw [hq] at f1
    injection f1 with f1
    injection f1 with f1
    injection f1 with f1
    injection hp with hp
    injection hp with hp
    injection hp with hp
    have := f3.lt
    omega
theorem TwoA.new5 (h : TwoA d a Z X L s1 s3 s4 s5 w) (hL : L 5 = false) (hx : X (put1 L 5) (w.alloc (.cells z8 34))) :
    TwoA d a Z X (put1 L 5) s1 s3 s4 (.pointer (some ⟨w.heap.size, 0, none⟩)) (w.alloc (.cells z8 34)) := by
  have k : Keeps (fun _ => False) w (w.alloc (.cells z8 34)) := (Keeps.refl _ _).alloc _
  have h7 : L 7 = false := by
    cases h7 : L 7 with
    | false => rfl
    | true => rw [(h.l7 h7).2] at hL; cases hL
  refine ⟨hx, Nat.le_trans h.sz k.size, fun h1 => ?_, fun h3 => ?_, fun h4 => ?_, fun h5 => ?_, fun h1 h4 => ?_, fun h1 _ => ?_, fun h3 h4 => ?_, fun h3 _ => ?_, fun h6 => ?_, fun h7' => ?_, fun h4 _ p q hp hq => ?_⟩
  · obtain ⟨A1, n1, c1, e1, e2, e3⟩ := h.i (by simpa [put1] using h1)
    exact ⟨A1, n1, c1, e1, e2.more k, e3⟩
  · obtain ⟨A1, n1, c1, e1, e2, e3⟩ := h.e (by simpa [put1] using h3)
    exact ⟨A1, n1, c1, e1, e2.more k, e3⟩
  · obtain ⟨p, cs, e1, e2, e3, e4, e5⟩ := h.v (by simpa [put1] using h4)
    exact ⟨p, cs, e1, e2, e3.keeps k id, fun h => e4 (by simpa [put1] using h), fun h => e5 (by simpa [put1] using h)⟩
  · exact ⟨w.heap.size, z8, rfl, h.sz, Blk.new _ _ _, fun _ => rfl, fun h => by simp [put1, h7] at h⟩
  · exact h.x14 (by simpa [put1] using h1) (by simpa [put1] using h4)
  · obtain ⟨A1, n1, c1, rfl, e2, e3⟩ := h.i (by simpa [put1] using h1)
    exact off_new rfl e2
  · exact h.x34 (by simpa [put1] using h3) (by simpa [put1] using h4)
  · obtain ⟨A1, n1, c1, rfl, e2, e3⟩ := h.e (by simpa [put1] using h3)
    exact off_new rfl e2
  · have := h.l6 (by simpa [put1] using h6)
    simpa [put1] using this
  · simp [put1, h7] at h7'
  · obtain ⟨q', cs, f1, _, f3, _⟩ := h.v (by simpa [put1] using h4)
    rw [hp] at f1
    injection f1 with f1
    injection f1 with f1
    injection f1 with f1
    injection hq with hq
    injection hq with hq
    injection hq with hq
    have := f3.lt
    omega
theorem TwoA.put6 (h : TwoA d a Z X L s1 s3 s4 s5 w) (h1 : L 1 = true) (h3 : L 3 = true) (h4 : L 4 = true) (h5 : L 5 = true) {p : Nat} {cs : Array Value} (e : s1 = .agg cs) (hp : s4 = .pointer (some ⟨p, 0, none⟩)) (k : Keeps (· = p) w w1) (hb : Blk w1 p 34 cs) (hx : X (put1 L 6) w1) :
    TwoA d a Z X (put1 L 6) s1 s3 s4 s5 w1 := by
  have hv := h.v h4
  have hu := h.u h5
  obtain ⟨p', cs', e1, e2, e3, _⟩ := hv
  have hpp : p' = p := by rw [hp] at e1; injection e1 with e1; injection e1 with e1; injection e1 with e1; exact e1.symm
  subst hpp
  have k14 := h.x14 h1 h4
  have k34 := h.x34 h3 h4
  rw [hp] at k14 k34
  refine ⟨hx, Nat.le_trans h.sz k.size, fun _ => ?_, fun _ => ?_, fun _ => ⟨p', cs, hp, e2, hb, fun h => by simp [put1] at h, fun _ => e⟩, fun _ => ?_, fun _ _ => h.x14 h1 h4, fun _ _ => h.x15 h1 h5, fun _ _ => h.x34 h3 h4, fun _ _ => h.x35 h3 h5, fun _ => by simp [put1, h1, h4], fun _ => by simp [put1, h3, h5], fun _ _ => h.vu h4 h5⟩
  · obtain ⟨A1, n1, c1, f1, f2, f3⟩ := h.i h1
    exact ⟨A1, n1, c1, f1, f2.keeps k (k14.row (by rw [f1]; rfl)), f3⟩
  · obtain ⟨A1, n1, c1, f1, f2, f3⟩ := h.e h3
    exact ⟨A1, n1, c1, f1, f2.keeps k (k34.row (by rw [f1]; rfl)), f3⟩
  · obtain ⟨q, cq, f1, f2, f3, f4, f5⟩ := hu
    exact ⟨q, cq, f1, f2, f3.keeps k (fun e => h.vu h4 h5 _ _ hp f1 e.symm), fun h => f4 (by simpa [put1] using h), fun h => f5 (by simpa [put1] using h)⟩
theorem TwoA.put7 (h : TwoA d a Z X L s1 s3 s4 s5 w) (h1 : L 1 = true) (h3 : L 3 = true) (h4 : L 4 = true) (h5 : L 5 = true) {p : Nat} {cs : Array Value} (e : s3 = .agg cs) (hp : s5 = .pointer (some ⟨p, 0, none⟩)) (k : Keeps (· = p) w w1) (hb : Blk w1 p 34 cs) (hx : X (put1 L 7) w1) :
    TwoA d a Z X (put1 L 7) s1 s3 s4 s5 w1 := by
  have hv := h.v h4
  have hu := h.u h5
  obtain ⟨p', cs', e1, e2, e3, _⟩ := hu
  have hpp : p' = p := by rw [hp] at e1; injection e1 with e1; injection e1 with e1; injection e1 with e1; exact e1.symm
  subst hpp
  have k15 := h.x15 h1 h5
  have k35 := h.x35 h3 h5
  rw [hp] at k15 k35
  refine ⟨hx, Nat.le_trans h.sz k.size, fun _ => ?_, fun _ => ?_, fun _ => ?_, fun _ => ⟨p', cs, hp, e2, hb, fun h => by simp [put1] at h, fun _ => e⟩, fun _ _ => h.x14 h1 h4, fun _ _ => h.x15 h1 h5, fun _ _ => h.x34 h3 h4, fun _ _ => h.x35 h3 h5, fun _ => by simp [put1, h1, h4], fun _ => by simp [put1, h3, h5], fun _ _ => h.vu h4 h5⟩
  · obtain ⟨A1, n1, c1, f1, f2, f3⟩ := h.i h1
    exact ⟨A1, n1, c1, f1, f2.keeps k (k15.row (by rw [f1]; rfl)), f3⟩
  · obtain ⟨A1, n1, c1, f1, f2, f3⟩ := h.e h3
    exact ⟨A1, n1, c1, f1, f2.keeps k (k35.row (by rw [f1]; rfl)), f3⟩
  · obtain ⟨q, cq, f1, f2, f3, f4, f5⟩ := hv
    exact ⟨q, cq, f1, f2, f3.keeps k (fun e => h.vu h4 h5 _ _ f1 hp e), fun h => f4 (by simpa [put1] using h), fun h => f5 (by simpa [put1] using h)⟩
/-- All have come up. -/
theorem TwoA.done (h : TwoA d a Z X L s1 s3 s4 s5 w) (hL : ∀ i, i < 8 → L i = true) : ∃ P Q A6 n6 c6 A7 n7 c7, s4 = .pointer (some ⟨P, 0, none⟩) ∧ s5 = .pointer (some ⟨Q, 0, none⟩) ∧ Blk w P 34 (av A6 n6 c6 d) ∧ Blk w Q 34 (av A7 n7 c7 a) ∧ Ents w A6 n6 d.d.L ∧ Ents w A7 n7 a.d.L ∧ (∀ b o, A6 = some ⟨b, o, none⟩ → Z ≤ b) ∧ (∀ b o, A7 = some ⟨b, o, none⟩ → Z ≤ b) ∧ Z ≤ P ∧ Z ≤ Q ∧ P ≠ Q := by
  obtain ⟨A6, n6, c6, e1, e2, e3⟩ := h.i (hL 1 (by omega))
  obtain ⟨A7, n7, c7, f1, f2, f3⟩ := h.e (hL 3 (by omega))
  obtain ⟨P, cs, g1, g2, g3, _, g5⟩ := h.v (hL 4 (by omega))
  obtain ⟨Q, ct, k1, k2, k3, _, k5⟩ := h.u (hL 5 (by omega))
  have g6 := g5 (hL 6 (by omega))
  have k6 := k5 (hL 7 (by omega))
  rw [e1] at g6
  rw [f1] at k6
  injection g6 with g6
  injection k6 with k6
  subst g6
  subst k6
  exact ⟨P, Q, A6, n6, c6, A7, n7, c7, g1, k1, g3, k3, e2, f2, e3, f3, g2, k2, h.vu (hL 4 (by omega)) (hL 5 (by omega)) _ _ g1 k1⟩
end
end Go.Proofs.Ytankkadfaokaoaa.Ds
