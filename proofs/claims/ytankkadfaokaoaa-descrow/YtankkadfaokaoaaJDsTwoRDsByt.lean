/- Two Readers that calls make of two rows that calls have made, each on its way into a variable of its own, whichever operation comes up next. -/
/- Bytes of ways are bytes; two ways and the variable that they came of, through what makes memory (desc). -/
import Derived.Test.YtankkadfaokaoaaJItfTwoDsPl
import Derived.Test.YtankkadfaokaoaaJAnyOrdAnyInv
import Derived.Test.YtankkadfaokaoaaJDsAnyDsBack
import Derived.Test.YtankkadfaokaoaaDsSameA
import Derived.Test.YtankkadfaokaoaaJDsSmDsSmI

namespace Go.Proofs.Ytankkadfaokaoaa.Ds
open Go.RowKit Go.Proofs.Ytankkadfaokaoaa.Gen Go.Proofs.Ytankkadfaokaoaa.Wr Go.Proofs.Ytankkadfaokaoaa.It Go.Proofs.Ytankkadfaokaoaa.Ir Go.Proofs.Ytankkadfaokaoaa.Ib Go.Proofs.Ytankkadfaokaoaa.Tw

def putR (L : Nat → Bool) (i : Nat) : Nat → Bool := fun j => if i = j then true else L j
theorem rd_inj {g q : Nat} (h : rd g = rd q) : g = q := by
  unfold rd at h
  simpa using h
theorem ptr_inj {g q : Nat} (h : Value.pointer (some ⟨g, 0, none⟩) = .pointer (some ⟨q, 0, none⟩)) : g = q := by simpa using h
theorem blk_apart {w : World} {p q t t' : Nat} {cs cs' : Array Value} (h1 : Blk w p t cs) (h2 : Blk w q t' cs') (ht : t ≠ t') : p ≠ q := by
  rintro rfl
  unfold Blk at h1 h2
  rw [h1] at h2
  injection h2 with h2
  injection h2 with _ h2
  exact ht h2
/-- A Reader stays through a turn of a block of another type. -/
theorem rd_far {base g p : Nat} {s : RS} {w w1 : World} {t : TypeId} {cs : Array Value} (h : IsRd base g s w) (hb : Blk w p t cs) (h1 : 92 ≠ t) (h2 : 5 ≠ t) (k : Keeps (· = p) w w1) : IsRd base g s w1 := by
  obtain ⟨h3, h4, A, c, h5, h6, h7⟩ := h
  exact ⟨h3, h4, A, c, h5.keeps k (blk_apart h5 hb h1), own_keeps h6 k (fun b hb' e => own_ne h6 hb h2 (by rw [hb', e])), h7⟩
structure TwoR (xs ys : List Int) (m1 m2 : Nat) (W : World) (L : Nat → Bool) (s1 s2 s3 s4 s5 s6 : Value) (w : World) : Prop where
  k : Keeps (fun _ => False) W w
  b1 : L 3 = true → L 4 = false → ∃ A c, s1 = .slice A m1 c ∧ Lies w A xs
  b2 : L 8 = true → L 9 = false → ∃ A c, s3 = .slice A m2 c ∧ Lies w A ys
  r1 : L 4 = true → ∃ base g, s2 = rd g ∧ IsRd base g ⟨xs, 0, 0⟩ w ∧ W.heap.size ≤ base
  r2 : L 9 = true → ∃ base g, s4 = rd g ∧ IsRd base g ⟨ys, 0, 0⟩ w ∧ W.heap.size ≤ base
  rr : L 4 = true → L 9 = true → ∀ g q, s2 = rd g → s4 = rd q → g ≠ q
  v : L 10 = true → ∃ p cs, s5 = .pointer (some ⟨p, 0, none⟩) ∧ W.heap.size ≤ p ∧ Blk w p 46 cs ∧ (L 12 = false → cs = #[.pointer none]) ∧ (L 12 = true → s2 = .agg cs)
  u : L 11 = true → ∃ p cs, s6 = .pointer (some ⟨p, 0, none⟩) ∧ W.heap.size ≤ p ∧ Blk w p 46 cs ∧ (L 13 = false → cs = #[.pointer none]) ∧ (L 13 = true → s4 = .agg cs)
  vu : L 10 = true → L 11 = true → ∀ p q, s5 = .pointer (some ⟨p, 0, none⟩) → s6 = .pointer (some ⟨q, 0, none⟩) → p ≠ q
  l12 : L 12 = true → L 4 = true ∧ L 9 = true ∧ L 10 = true
  l13 : L 13 = true → L 4 = true ∧ L 9 = true ∧ L 11 = true
section
variable {xs ys : List Int} {m1 m2 : Nat} {W : World} {L : Nat → Bool} {s1 s2 s3 s4 s5 s6 : Value} {w w1 : World}
theorem not_true {b : Bool} {q : Prop} (h : b = true → q) (hq : ¬ q) : b = false := by
  cases b with
  | false => rfl
  | true => exact absurd (h rfl) hq
/-- Memory that is new alone, and nothing but the order and the values told. -/
theorem TwoR.more (h : TwoR xs ys m1 m2 W L s1 s2 s3 s4 s5 s6 w) (k : Keeps (fun _ => False) w w1) : TwoR xs ys m1 m2 W L s1 s2 s3 s4 s5 s6 w1 := by
  refine ⟨h.k.trans k, fun a b => ?_, fun a b => ?_, fun a => ?_, fun a => ?_, h.rr, fun a => ?_, fun a => ?_, h.vu, h.l12, h.l13⟩
  · obtain ⟨A, c, e, l⟩ := h.b1 a b
    exact ⟨A, c, e, l.keeps k (fun _ _ _ => id)⟩
  · obtain ⟨A, c, e, l⟩ := h.b2 a b
    exact ⟨A, c, e, l.keeps k (fun _ _ _ => id)⟩
  · obtain ⟨base, g, e, l, b⟩ := h.r1 a
    exact ⟨base, g, e, l.keeps k (fun _ _ => id), b⟩
  · obtain ⟨base, g, e, l, b⟩ := h.r2 a
    exact ⟨base, g, e, l.keeps k (fun _ _ => id), b⟩
  · obtain ⟨p, cs, e, b, l, r⟩ := h.v a
    exact ⟨p, cs, e, b, l.keeps k id, r⟩
  · obtain ⟨p, cs, e, b, l, r⟩ := h.u a
    exact ⟨p, cs, e, b, l.keeps k id, r⟩
theorem TwoR.bytes1 (h : TwoR xs ys m1 m2 W L s1 s2 s3 s4 s5 s6 w) {A : Option Addr} {c : Nat} (hl : Lies w A xs) : TwoR xs ys m1 m2 W (putR L 3) (.slice A m1 c) s2 s3 s4 s5 s6 w :=
   ⟨h.k, fun _ _ => ⟨A, c, rfl, hl⟩, by simpa [putR] using h.b2, by simpa [putR] using h.r1, by simpa [putR] using h.r2, by simpa [putR] using h.rr, by simpa [putR] using h.v, by simpa [putR] using h.u, by simpa [putR] using h.vu, by simpa [putR] using h.l12, by simpa [putR] using h.l13⟩
theorem TwoR.bytes2 (h : TwoR xs ys m1 m2 W L s1 s2 s3 s4 s5 s6 w) {A : Option Addr} {c : Nat} (hl : Lies w A ys) : TwoR xs ys m1 m2 W (putR L 8) s1 s2 (.slice A m2 c) s4 s5 s6 w :=
   ⟨h.k, by simpa [putR] using h.b1, fun _ _ => ⟨A, c, rfl, hl⟩, by simpa [putR] using h.r1, by simpa [putR] using h.r2, by simpa [putR] using h.rr, by simpa [putR] using h.v, by simpa [putR] using h.u, by simpa [putR] using h.vu, by simpa [putR] using h.l12, by simpa [putR] using h.l13⟩
theorem TwoR.read1 (h : TwoR xs ys m1 m2 W L s1 s2 s3 s4 s5 s6 w) (hL : L 4 = false) {w0 : World} (hW : W.heap.size ≤ w0.heap.size) (h9 : L 9 = true → ∀ q, s4 = rd q → q < w0.heap.size) {g : Nat} (hr : IsRd w0.heap.size g ⟨xs, 0, 0⟩ w) : TwoR xs ys m1 m2 W (putR L 4) s1 (rd g) s3 s4 s5 s6 w := by
  have h12 := not_true h.l12 (fun q => by rw [q.1] at hL; cases hL)
  have h13 := not_true h.l13 (fun q => by rw [q.1] at hL; cases hL)
  refine ⟨h.k, fun _ e => by simp [putR] at e, by simpa [putR] using h.b2, fun _ => ⟨_, g, rfl, hr, hW⟩, by simpa [putR] using h.r2, fun _ e9 g' q hg hq => ?_, fun e => ?_, by simpa [putR] using h.u, by simpa [putR] using h.vu, fun e => by simp [putR, h12] at e, fun e => by simp [putR, h13] at e⟩
  · have := rd_inj hg
    have := h9 (by simpa [putR] using e9) q hq
    have := hr.1
    omega
  · obtain ⟨p, cs, f1, f2, f3, f4, f5⟩ := h.v (by simpa [putR] using e)
    exact ⟨p, cs, f1, f2, f3, by simpa [putR] using f4, fun e => by simp [putR, h12] at e⟩
theorem TwoR.read2 (h : TwoR xs ys m1 m2 W L s1 s2 s3 s4 s5 s6 w) (hL : L 9 = false) {w0 : World} (hW : W.heap.size ≤ w0.heap.size) (h4 : L 4 = true → ∀ q, s2 = rd q → q < w0.heap.size) {g : Nat} (hr : IsRd w0.heap.size g ⟨ys, 0, 0⟩ w) : TwoR xs ys m1 m2 W (putR L 9) s1 s2 s3 (rd g) s5 s6 w := by
  have h12 := not_true h.l12 (fun q => by rw [q.2.1] at hL; cases hL)
  have h13 := not_true h.l13 (fun q => by rw [q.2.1] at hL; cases hL)
  refine ⟨h.k, by simpa [putR] using h.b1, fun _ e => by simp [putR] at e, by simpa [putR] using h.r1, fun _ => ⟨_, g, rfl, hr, hW⟩, fun e4 _ q g' hq hg => ?_, by simpa [putR] using h.v, fun e => ?_, by simpa [putR] using h.vu, fun e => by simp [putR, h12] at e, fun e => by simp [putR, h13] at e⟩
  · have := rd_inj hg
    have := h4 (by simpa [putR] using e4) q hq
    have := hr.1
    omega
  · obtain ⟨p, cs, f1, f2, f3, f4, f5⟩ := h.u (by simpa [putR] using e)
    exact ⟨p, cs, f1, f2, f3, by simpa [putR] using f4, fun e => by simp [putR, h13] at e⟩
theorem TwoR.new10 (h : TwoR xs ys m1 m2 W L s1 s2 s3 s4 s5 s6 w) (hL : L 10 = false) : TwoR xs ys m1 m2 W (putR L 10) s1 s2 s3 s4 (.pointer (some ⟨w.heap.size, 0, none⟩)) s6 (w.alloc (.cells #[.pointer none] 46)) := by
  have h12 := not_true h.l12 (fun q => by rw [q.2.2] at hL; cases hL)
  have h' := h.more (w1 := w.alloc (.cells #[.pointer none] 46)) ((Keeps.refl _ _).alloc _)
  refine ⟨h'.k, by simpa [putR] using h'.b1, by simpa [putR] using h'.b2, by simpa [putR] using h'.r1, by simpa [putR] using h'.r2, by simpa [putR] using h'.rr, fun _ => ⟨_, _, rfl, h.k.size, Blk.new _ _ _, fun _ => rfl, fun e => by simp [putR, h12] at e⟩, by simpa [putR] using h'.u, fun _ e11 p q hp hq => ?_, fun e => by simp [putR, h12] at e, by simpa [putR] using h'.l13⟩
  have := ptr_inj hp
  obtain ⟨p', cs, f1, f2, f3, _⟩ := h.u (by simpa [putR] using e11)
  rw [hq] at f1
  have := ptr_inj f1
  have := f3.lt
  omega
theorem TwoR.new11 (h : TwoR xs ys m1 m2 W L s1 s2 s3 s4 s5 s6 w) (hL : L 11 = false) : TwoR xs ys m1 m2 W (putR L 11) s1 s2 s3 s4 s5 (.pointer (some ⟨w.heap.size, 0, none⟩)) (w.alloc (.cells #[.pointer none] 46)) := by
  have h13 := not_true h.l13 (fun q => by rw [q.2.2] at hL; cases hL)
  have h' := h.more (w1 := w.alloc (.cells #[.pointer none] 46)) ((Keeps.refl _ _).alloc _)
  refine ⟨h'.k, by simpa [putR] using h'.b1, by simpa [putR] using h'.b2, by simpa [putR] using h'.r1, by simpa [putR] using h'.r2, by simpa [putR] using h'.rr, by simpa [putR] using h'.v, fun _ => ⟨_, _, rfl, h.k.size, Blk.new _ _ _, fun _ => rfl, fun e => by simp [putR, h13] at e⟩, fun e10 _ p q hp hq => ?_, by simpa [putR] using h'.l12, fun e => by simp [putR, h13] at e⟩
  have := ptr_inj hq
  obtain ⟨p', cs, f1, f2, f3, _⟩ := h.v (by simpa [putR] using e10)
  rw [hp] at f1
  have := ptr_inj f1
  have := f3.lt
  omega
theorem TwoR.put12 (h : TwoR xs ys m1 m2 W L s1 s2 s3 s4 s5 s6 w) (h4 : L 4 = true) (h9 : L 9 = true) (h10 : L 10 = true) (h11 : L 11 = true) {p : Nat} {cs : Array Value} (e : s2 = .agg cs) (hp : s5 = .pointer (some ⟨p, 0, none⟩)) (k : Keeps (· = p) w w1) (hb : Blk w1 p 46 cs) : TwoR xs ys m1 m2 W (putR L 12) s1 s2 s3 s4 s5 s6 w1 := by
  obtain ⟨p', cs', e1, e2, e3, _⟩ := h.v h10
  have hpp : p' = p := ptr_inj (by rw [← e1, hp])
  subst hpp
  have hk := h.k
  refine ⟨⟨k.os.trans hk.os, k.tape.trans hk.tape, k.output.trans hk.output, Nat.le_trans hk.size k.size, fun x hx hn => (k.block x (Nat.lt_of_lt_of_le hx hk.size) (by omega)).trans (hk.block x hx hn)⟩, fun _ e => by simp [putR, h4] at e, fun _ e => by simp [putR, h9] at e, fun _ => ?_, fun _ => ?_, fun _ _ => h.rr h4 h9, fun _ => ⟨p', cs, hp, e2, hb, fun e => by simp [putR] at e, fun _ => e⟩, fun _ => ?_, fun _ _ => h.vu h10 h11, fun _ => by simp [putR, h4, h9, h10], fun _ => by simp [putR, h4, h9, h11]⟩
  · obtain ⟨base, g, f1, f2, f3⟩ := h.r1 h4
    exact ⟨base, g, f1, rd_far f2 e3 (by decide) (by decide) k, f3⟩
  · obtain ⟨base, g, f1, f2, f3⟩ := h.r2 h9
    exact ⟨base, g, f1, rd_far f2 e3 (by decide) (by decide) k, f3⟩
  · obtain ⟨q, cq, f1, f2, f3, f4, f5⟩ := h.u h11
    exact ⟨q, cq, f1, f2, f3.keeps k (fun e => h.vu h10 h11 _ _ hp f1 e.symm), by simpa [putR] using f4, by simpa [putR] using f5⟩
theorem TwoR.put13 (h : TwoR xs ys m1 m2 W L s1 s2 s3 s4 s5 s6 w) (h4 : L 4 = true) (h9 : L 9 = true) (h10 : L 10 = true) (h11 : L 11 = true) {p : Nat} {cs : Array Value} (e : s4 = .agg cs) (hp : s6 = .pointer (some ⟨p, 0, none⟩)) (k : Keeps (· = p) w w1) (hb : Blk w1 p 46 cs) : TwoR xs ys m1 m2 W (putR L 13) s1 s2 s3 s4 s5 s6 w1 := by
  obtain ⟨p', cs', e1, e2, e3, _⟩ := h.u h11
  have hpp : p' = p := ptr_inj (by rw [← e1, hp])
  subst hpp
  have hk := h.k
  refine ⟨⟨k.os.trans hk.os, k.tape.trans hk.tape, k.output.trans hk.output, Nat.le_trans hk.size k.size, fun x hx hn => (k.block x (Nat.lt_of_lt_of_le hx hk.size) (by omega)).trans (hk.block x hx hn)⟩, fun _ e => by simp [putR, h4] at e, fun _ e => by simp [putR, h9] at e, fun _ => ?_, fun _ => ?_, fun _ _ => h.rr h4 h9, fun _ => ?_, fun _ => ⟨p', cs, hp, e2, hb, fun e => by simp [putR] at e, fun _ => e⟩, fun _ _ => h.vu h10 h11, fun _ => by simp [putR, h4, h9, h10], fun _ => by simp [putR, h4, h9, h11]⟩
  · obtain ⟨base, g, f1, f2, f3⟩ := h.r1 h4
    exact ⟨base, g, f1, rd_far f2 e3 (by decide) (by decide) k, f3⟩
  · obtain ⟨base, g, f1, f2, f3⟩ := h.r2 h9
    exact ⟨base, g, f1, rd_far f2 e3 (by decide) (by decide) k, f3⟩
  · obtain ⟨q, cq, f1, f2, f3, f4, f5⟩ := h.v h10
    exact ⟨q, cq, f1, f2, f3.keeps k (fun e => h.vu h10 h11 _ _ f1 hp e), by simpa [putR] using f4, by simpa [putR] using f5⟩
/-- All have come up. -/
theorem TwoR.done (h : TwoR xs ys m1 m2 W L s1 s2 s3 s4 s5 s6 w) (hL : ∀ i, i < 14 → L i = true) : ∃ P Q b1 g1 b2 g2, s5 = .pointer (some ⟨P, 0, none⟩) ∧ s6 = .pointer (some ⟨Q, 0, none⟩) ∧ Blk w P 46 #[.pointer (some ⟨g1, 0, none⟩)] ∧ Blk w Q 46 #[.pointer (some ⟨g2, 0, none⟩)] ∧ IsRd b1 g1 ⟨xs, 0, 0⟩ w ∧ IsRd b2 g2 ⟨ys, 0, 0⟩ w ∧ W.heap.size ≤ b1 ∧ W.heap.size ≤ b2 ∧ W.heap.size ≤ P ∧ W.heap.size ≤ Q ∧ g1 ≠ g2 := by
  obtain ⟨b1, g1, e1, e2, e3⟩ := h.r1 (hL 4 (by omega))
  obtain ⟨b2, g2, f1, f2, f3⟩ := h.r2 (hL 9 (by omega))
  obtain ⟨P, cs, k1, k2, k3, _, k5⟩ := h.v (hL 10 (by omega))
  obtain ⟨Q, ct, q1, q2, q3, _, q5⟩ := h.u (hL 11 (by omega))
  have k6 := k5 (hL 12 (by omega))
  have q6 := q5 (hL 13 (by omega))
  have hne := h.rr (hL 4 (by omega)) (hL 9 (by omega)) _ _ e1 f1
  rw [e1] at k6
  rw [f1] at q6
  unfold rd at k6 q6
  injection k6 with k6
  injection q6 with q6
  subst k6
  subst q6
  exact ⟨P, Q, b1, g1, b2, g2, k1, q1, k3, q3, e2, f2, e3, f3, k2, q2, hne⟩
end
/-- Two Readers, each in a variable, later on. -/
structure Rs (X Y b1 g1 b2 g2 : Nat) (s1 s2 : RS) (w5 wr : World) : Prop where
  r1 : IsRd b1 g1 s1 wr
  r2 : IsRd b2 g2 s2 wr
  x : Blk wr X 46 #[.pointer (some ⟨g1, 0, none⟩)]
  y : Blk wr Y 46 #[.pointer (some ⟨g2, 0, none⟩)]
  k : Keeps (fun _ => False) w5 wr
  l1 : w5.heap.size ≤ g1
  l2 : w5.heap.size ≤ g2
  ne : g1 ≠ g2
section
variable {X Y b1 g1 b2 g2 : Nat} {s1 s2 s' : RS} {w5 wr w1 : World}
theorem Rs.low (h : Rs X Y b1 g1 b2 g2 s1 s2 w5 wr) (k : Keeps (fun j => j = g1 ∨ j = g2) wr w1) : Keeps (fun _ => False) w5 w1 := by
  have hk := h.k
  have h1 := h.l1
  have h2 := h.l2
  exact ⟨k.os.trans hk.os, k.tape.trans hk.tape, k.output.trans hk.output, Nat.le_trans hk.size k.size, fun x hx hn => (k.block x (Nat.lt_of_lt_of_le hx hk.size) (by omega)).trans (hk.block x hx hn)⟩
theorem Rs.xne (h : Rs X Y b1 g1 b2 g2 s1 s2 w5 wr) : ¬ (X = g1 ∨ X = g2) := by
  obtain ⟨_, _, A, c, h5, _⟩ := h.r1
  obtain ⟨_, _, A2, c2, h6, _⟩ := h.r2
  rintro (e | e)
  · exact blk_apart h.x h5 (by decide) e
  · exact blk_apart h.x h6 (by decide) e
theorem Rs.yne (h : Rs X Y b1 g1 b2 g2 s1 s2 w5 wr) : ¬ (Y = g1 ∨ Y = g2) := by
  obtain ⟨_, _, A, c, h5, _⟩ := h.r1
  obtain ⟨_, _, A2, c2, h6, _⟩ := h.r2
  rintro (e | e)
  · exact blk_apart h.y h5 (by decide) e
  · exact blk_apart h.y h6 (by decide) e
theorem Rs.xs (h : Rs X Y b1 g1 b2 g2 s1 s2 w5 wr) (k : Keeps (fun j => j = g1 ∨ j = g2) wr w1) : Blk w1 X 46 #[.pointer (some ⟨g1, 0, none⟩)] := h.x.keeps k h.xne
theorem Rs.ys (h : Rs X Y b1 g1 b2 g2 s1 s2 w5 wr) (k : Keeps (fun j => j = g1 ∨ j = g2) wr w1) : Blk w1 Y 46 #[.pointer (some ⟨g2, 0, none⟩)] := h.y.keeps k h.yne
theorem Rs.more (h : Rs X Y b1 g1 b2 g2 s1 s2 w5 wr) (k : Keeps (fun _ => False) wr w1) : Rs X Y b1 g1 b2 g2 s1 s2 w5 w1 :=
  ⟨h.r1.keeps k (fun _ _ => id), h.r2.keeps k (fun _ _ => id), h.x.keeps k id, h.y.keeps k id, h.k.trans k, h.l1, h.l2, h.ne⟩
theorem Rs.t1 (h : Rs X Y b1 g1 b2 g2 s1 s2 w5 wr) (hr : IsRd b1 g1 s' w1) (k : Keeps (· = g1) wr w1) : Rs X Y b1 g1 b2 g2 s' s2 w5 w1 := by
  have k2 : Keeps (fun j => j = g1 ∨ j = g2) wr w1 := k.mono fun _ _ e => .inl e
  exact ⟨hr, h.r2.apart h.r1 h.ne.symm k, h.xs k2, h.ys k2, h.low k2, h.l1, h.l2, h.ne⟩
theorem Rs.t2 (h : Rs X Y b1 g1 b2 g2 s1 s2 w5 wr) (hr : IsRd b2 g2 s' w1) (k : Keeps (· = g2) wr w1) : Rs X Y b1 g1 b2 g2 s1 s' w5 w1 := by
  have k2 : Keeps (fun j => j = g1 ∨ j = g2) wr w1 := k.mono fun _ _ e => .inr e
  exact ⟨h.r1.apart h.r2 h.ne k, hr, h.xs k2, h.ys k2, h.low k2, h.l1, h.l2, h.ne⟩
/-- A row that is none of theirs stays. -/
theorem Rs.row {base n : Nat} {v : Value} {xs : List Value} (h : Rs X Y b1 g1 b2 g2 s1 s2 w5 wr) (hv : wr.ownsRow base 5 1 v n xs) (k : Keeps (fun j => j = g1 ∨ j = g2) wr w1) : w1.ownsRow base 5 1 v n xs := by
  obtain ⟨_, _, A, c, h5, _⟩ := h.r1
  obtain ⟨_, _, A2, c2, h6, _⟩ := h.r2
  refine own_keeps hv k (fun b hb => ?_)
  rintro (e | e)
  · exact own_ne hv h5 (by decide) (by rw [hb, e])
  · exact own_ne hv h6 (by decide) (by rw [hb, e])
end
end Go.Proofs.Ytankkadfaokaoaa.Ds

namespace Go.Proofs.Ytankkadfaokaoaa.Ds
open Go.RowKit Go.Proofs.Ytankkadfaokaoaa.Gen Go.Proofs.Ytankkadfaokaoaa.Wr Go.Proofs.Ytankkadfaokaoaa.Ww Go.Proofs.Ytankkadfaokaoaa.It Go.Proofs.Ytankkadfaokaoaa.Ir Go.Proofs.Ytankkadfaokaoaa.Ib Go.Proofs.Ytankkadfaokaoaa.Tw Go.Proofs.Ytankkadfaokaoaa.Hr Go.Proofs.Ytankkadfaokaoaa.Hn Go.Proofs.Ytankkadfaokaoaa.Hk Go.Proofs.Ytankkadfaokaoaa.Ln

theorem byte_app {xs ys : List Int} (h1 : ∀ x ∈ xs, 0 ≤ x ∧ x < 256) (h2 : ∀ x ∈ ys, 0 ≤ x ∧ x < 256) : ∀ x ∈ xs ++ ys, 0 ≤ x ∧ x < 256 := by
  intro x hx
  rcases List.mem_append.1 hx with h | h
  · exact h1 x h
  · exact h2 x h
theorem sg_in (n : Int) : 0 ≤ sg n ∧ sg n < 4294967296 := by unfold sg; omega
theorem entB_byte {L : List G} (h : newE L = 0) : ∀ x ∈ entB L, 0 ≤ x ∧ x < 256 := by
  have hl := (newE_zero h).1.2
  refine byte_app (encInt_byte (by omega) (by omega)) (byte_app (encs_byte fun n _ => encInt_byte (sg_in n).1 (sg_in n).2) (encs_byte fun n hn => ?_))
  obtain ⟨p, hp, rfl⟩ := List.mem_map.1 hn
  have := newE_in h p hp
  exact encInt_byte (by omega) (by omega)
theorem bytI_byte {d : D} (h : chkI d = 0) : ∀ x ∈ bytI d, 0 ≤ x ∧ x < 256 := by
  rcases chkI_in h with ⟨hk, hb⟩ | ⟨hk, hb⟩ | ⟨hk, hb⟩
  · have e1 : bytI d = encInt 1 ++ encInt d.B := by simp [bytI, bodI, hk]
    rw [e1]
    exact byte_app (encInt_byte (by omega) (by omega)) (encInt_byte (by omega) (by omega))
  · have e1 : bytI d = encInt 3 ++ entB d.L := by simp [bytI, bodI, hk]
    rw [e1]
    exact byte_app (encInt_byte (by omega) (by omega)) (entB_byte hb)
  · have e1 : bytI d = encInt 6 ++ (encInt (sg d.le) ++ encInt d.bi) := by simp [bytI, bodI, hk]
    rw [e1]
    exact byte_app (encInt_byte (by omega) (by omega)) (byte_app (encInt_byte (sg_in _).1 (sg_in _).2) (encInt_byte (by omega) (by omega)))
theorem bytA_byte {a : E} (h : chkA a = 0) (hS : 0 ≤ a.S ∧ a.S < 256) : ∀ x ∈ bytA a, 0 ≤ x ∧ x < 256 := by
  obtain ⟨hb, hk⟩ := chkA_ok h
  rcases hk with hk | ⟨hk, hd⟩
  · have e1 : bytA a = encInt 5 ++ (encInt a.B ++ [a.S]) := by simp [bytA, hk]
    rw [e1]
    refine byte_app (encInt_byte (by omega) (by omega)) (byte_app (encInt_byte (by omega) (by omega)) ?_)
    intro x hx
    rw [List.mem_singleton.1 hx]
    exact hS
  · have e1 : bytA a = encInt 4 ++ (encInt a.B ++ bytI a.d) := by simp [bytA, hk]
    rw [e1]
    exact byte_app (encInt_byte (by omega) (by omega)) (byte_app (encInt_byte (by omega) (by omega)) (bytI_byte hd))
theorem sameI_self (d : D) : sameI d d = true := by simp [sameI]
theorem sameA_self (a : E) : sameA a a = true := by simp [sameA, sameI_self]
/-- What is put is taken, and nothing is left. -/
theorem TI_whole {d : D} (h : chkI d = 0) (hc : clI d = d) : TI ⟨bytI d, 0, 0⟩ = (d, ⟨bytI d, (bytI d).length, 0⟩) := by
  have := TI_back (all := bytI d) (k := 0) (rest := []) (d := d) (by simp) h
  rw [hc] at this
  simpa using this
theorem TA_whole {a : E} (h : chkA a = 0) (hc : clA a = a) : TA ⟨bytA a, 0, 0⟩ = (a, ⟨bytA a, (bytA a).length, 0⟩) := by
  have := TA_back (all := bytA a) (k := 0) (rest := []) (a := a) (by simp) h
  rw [hc] at this
  simpa using this
theorem fin_whole (xs : List Int) : RS.fin ⟨xs, xs.length, 0⟩ = 0 := by simp [RS.fin, RS.left]
theorem keeps_high {w w1 w2 : World} {p : Nat} (h : Keeps (fun _ => False) w w1) (k : Keeps (· = p) w1 w2) (hp : w.heap.size ≤ p) : Keeps (fun _ => False) w w2 :=
  ⟨k.os.trans h.os, k.tape.trans h.tape, k.output.trans h.output, Nat.le_trans h.size k.size, fun x hx hn => (k.block x (Nat.lt_of_lt_of_le hx h.size) (by omega)).trans (h.block x hx hn)⟩
theorem ents_far {w : World} {A : Option Addr} {n g : Nat} {L : List G} (h : Ents w A n L) (hg : w.heap.size ≤ g) : 0 < n → ∀ b o, A = some ⟨b, o, none⟩ → ¬ Its g (.slice none 0 0) b := by
  rintro h0 b o rfl (e | e)
  · have := h.lt h0
    omega
  · cases e
theorem lies_one (w : World) (x : Int) : Lies (w.alloc (.cells #[.int .u8 x] 5)) (some ⟨w.heap.size, 0, none⟩) [x] := by
  refine .inr ⟨w.heap.size, 0, rfl, by simp, fun i hi => ?_⟩
  have : i = 0 := by simpa using hi
  subst this
  rw [(Blk.new w 5 #[.int .u8 x]).cell]
  rfl
/-- Two ways in their variables, beside the variable that they came of. -/
structure Bk (P Q b : Nat) (sv : Array Value) (A6 : Option Addr) (n6 c6 : Nat) (A7 : Option Addr) (n7 c7 : Nat) (d : D) (a : E) (w : World) : Prop where
  sm : Blk w b 26 sv
  i : Blk w P 31 (dv A6 n6 c6 d)
  e : Blk w Q 34 (av A7 n7 c7 a)
  ei : Ents w A6 n6 d.L
  ee : Ents w A7 n7 a.d.L
theorem Bk.more {P Q b : Nat} {sv : Array Value} {A6 : Option Addr} {n6 c6 : Nat} {A7 : Option Addr} {n7 c7 : Nat} {d : D} {a : E} {w w1 : World} (h : Bk P Q b sv A6 n6 c6 A7 n7 c7 d a w) (k : Keeps (fun _ => False) w w1) : Bk P Q b sv A6 n6 c6 A7 n7 c7 d a w1 :=
  ⟨h.sm.keeps k id, h.i.keeps k id, h.e.keeps k id, h.ei.more k, h.ee.more k⟩
end Go.Proofs.Ytankkadfaokaoaa.Ds
