/- Three calls beside three free allocations, each stored behind it (ContigSame's 'a, b, c := s.Ref(), t.Ref(), s.Ref()'): one fact that every operation keeps. No conditions beyond those that each law names. -/
import Derived.Test.YtbekdcakmeejaaaCtJo
namespace Go.Proofs.Ytbekdcakmeejaaa.Ct
open Go.RowKit Go.Proofs.Ytbekdcakmeejaaa.Gen Go.Proofs.Ytbekdcakmeejaaa.Ca Go.Proofs.Ytbekdcakmeejaaa.Cl

/-- All of it lies below. -/
def Ub (A : Option Addr) (n c : Nat) (es : List Ct) (u : Nat) : Prop := (∀ b, (Value.slice A n c).ownBlock = some b → b < u) ∧ ∀ e ∈ es, ∀ b, e.v.ownBlock = some b → b < u
theorem Mine.ub {base n c : Nat} {A : Option Addr} {es : List Ct} {w : World} (h : Mine base A n c es w) : Ub A n c es w.heap.size :=
  ⟨fun b hb => (h.own.lt b hb).2, fun e he b hb => ((h.good e he).2.lt b hb).2⟩
theorem Mine.keepsU {S : Nat → Prop} {base n c u : Nat} {A : Option Addr} {es : List Ct} {w w1 : World} (h : Mine base A n c es w) (hu : Ub A n c es u) (k : Keeps S w w1) (hS : ∀ b, b < u → ¬ S b) : Mine base A n c es w1 := by
  refine ⟨own_keeps h.own k (fun b hb => hS b (hu.1 b hb)), h.el, fun e he => ?_, h.apart⟩
  have hg := h.good e he
  have o := own_keeps hg.2 k (fun b hb => hS b (hu.2 e he b hb))
  exact ⟨⟨Lies.of_own o, hg.1.bs, hg.1.bn, hg.1.ls, hg.1.ln⟩, o⟩
theorem Mine.farRef {base n c q : Nat} {A : Option Addr} {es : List Ct} {cs : Array Value} {w : World} (h : Mine base A n c es w) (b : Blk w q 29 cs) (u : Value) : Mine base A n c es (w.setCell ⟨q, 0, none⟩ u) := by
  have k7 : Keeps (fun j => j = q) w (w.setCell ⟨q, 0, none⟩ u) := (Keeps.refl _ _).setOwn 0 u
  refine ⟨own_keeps h.own k7 (fun b1 hb e => own_ne h.own b (by decide) (by rw [hb, e])), h.el, fun e he => ?_, h.apart⟩
  have hg := h.good e he
  have o := own_keeps hg.2 k7 (fun b1 hb e => own_ne hg.2 b (by decide) (by rw [hb, e]))
  exact ⟨⟨Lies.of_own o, hg.1.bs, hg.1.bn, hg.1.ls, hg.1.ln⟩, o⟩
/-- The value that a call answered, its rows. -/
structure Cal (bs us : Nat) (N : Nat) (X : List Pr) (v : Value) (A : Option Addr) (c : Nat) (es : List Ct) (w : World) : Prop where
  val : v = .agg #[.slice A N c]
  mine : Mine bs A N c es w
  prs : pairs es = X
  ub : Ub A N c es us
structure J3 (W0 : World) (N : Nat → Nat) (X : Nat → List Pr) (bs us : Nat → Nat) (L : Nat → Bool) (vc vp : Nat → Value) (w : World) : Prop where
  k : Keeps (fun _ => False) W0 w
  m : ∀ j, j < 3 → L (2 * j + 1) = true → ∃ A c es, Cal (bs j) (us j) (N j) (X j) (vc j) A c es w
  p : ∀ j, j < 3 → L (6 + j) = true → ∃ q, vp j = .pointer (some ⟨q, 0, none⟩) ∧ W0.heap.size ≤ q ∧ (L (9 + j) = false → Blk w q 29 #[.slice none 0 0]) ∧ (L (9 + j) = true → ∃ A c, vc j = .agg #[.slice A (N j) c] ∧ Blk w q 29 #[.slice A (N j) c])
  d : ∀ i j, i < 3 → j < 3 → i ≠ j → L (6 + i) = true → L (6 + j) = true → vp i ≠ vp j
  o : ∀ i j, i < j → j < 3 → L (2 * j + 1) = true → us i ≤ bs j
  s : ∀ j, j < 3 → L (2 * j + 1) = true → us j ≤ w.heap.size
def up {α : Type} (f : Nat → α) (j : Nat) (x : α) : Nat → α := fun i => if i = j then x else f i
theorem up_at {α : Type} (f : Nat → α) (j : Nat) (x : α) : up f j x j = x := by simp [up]
theorem up_ne {α : Type} (f : Nat → α) (j i : Nat) (x : α) (h : i ≠ j) : up f j x i = f i := by simp [up, h]
theorem J3.blkLt {W0 : World} {N : Nat → Nat} {X : Nat → List Pr} {bs us : Nat → Nat} {L : Nat → Bool} {vc vp : Nat → Value} {w : World} (h : J3 W0 N X bs us L vc vp w) {j : Nat} (hj : j < 3) (hL : L (6 + j) = true) : ∃ q, vp j = .pointer (some ⟨q, 0, none⟩) ∧ q < w.heap.size := by
  obtain ⟨q, h1, _, h3, h4⟩ := h.p j hj hL
  cases hh : L (9 + j) with
  | false => exact ⟨q, h1, (h3 hh).lt⟩
  | true =>
    obtain ⟨A, c, _, h5⟩ := h4 hh
    exact ⟨q, h1, h5.lt⟩
/-- A call. -/
theorem J3.call {W0 : World} {N : Nat → Nat} {X : Nat → List Pr} {bs us : Nat → Nat} {L : Nat → Bool} {vc vp : Nat → Value} {w w1 : World} (h : J3 W0 N X bs us L vc vp w) (j : Nat) (hj : j < 3) (hL : L (2 * j + 1) = false) (h9 : L (9 + j) = false) (hb : ∀ i, i < j → L (2 * i + 1) = true) (ha : ∀ i, j < i → i < 3 → L (2 * i + 1) = false)
    {A : Option Addr} {c : Nat} {es : List Ct} (hm : Mine w.heap.size A (N j) c es w1) (hp : pairs es = X j) (hk : Keeps (fun _ => False) w w1) :
    J3 W0 N X (up bs j w.heap.size) (up us j w1.heap.size) (fun i => if 2 * j + 1 = i then true else L i) (up vc j (.agg #[.slice A (N j) c])) vp w1 := by
  refine ⟨h.k.trans hk, fun i hi hLi => ?_, fun i hi hLi => ?_, fun i i' hi hi' hn hLi hLi' => ?_, fun i i' hii hi' hLi => ?_, fun i hi hLi => ?_⟩
  · by_cases e : i = j
    · subst e
      rw [up_at, up_at, up_at]
      exact ⟨A, c, es, rfl, hm, hp, hm.ub⟩
    · rw [up_ne _ _ _ _ e, up_ne _ _ _ _ e, up_ne _ _ _ _ e]
      rw [if_neg (by omega)] at hLi
      obtain ⟨A1, c1, es1, hc⟩ := h.m i hi hLi
      exact ⟨A1, c1, es1, hc.val, hc.mine.more hk, hc.prs, hc.ub⟩
  · rw [if_neg (by omega)] at hLi
    obtain ⟨q, h1, h2, h3, h4⟩ := h.p i hi hLi
    refine ⟨q, h1, h2, fun h5 => ?_, fun h5 => ?_⟩
    · rw [if_neg (by omega)] at h5
      exact (h3 h5).keeps hk id
    · rw [if_neg (by omega)] at h5
      obtain ⟨A1, c1, h6, h7⟩ := h4 h5
      have e : i ≠ j := fun e => by subst e; rw [h9] at h5; cases h5
      rw [up_ne _ _ _ _ e]
      exact ⟨A1, c1, h6, h7.keeps hk id⟩
  · rw [if_neg (by omega)] at hLi hLi'
    exact h.d i i' hi hi' hn hLi hLi'
  · by_cases e : i' = j
    · subst e
      rw [up_at, up_ne _ _ _ _ (by omega)]
      exact h.s i (by omega) (hb i hii)
    · rw [if_neg (by omega)] at hLi
      have e2 : i ≠ j := fun e2 => by
        subst e2
        rw [ha i' hii hi'] at hLi
        cases hLi
      rw [up_ne _ _ _ _ e, up_ne _ _ _ _ e2]
      exact h.o i i' hii hi' hLi
  · by_cases e : i = j
    · subst e
      rw [up_at]
      exact Nat.le_refl _
    · rw [up_ne _ _ _ _ e]
      rw [if_neg (by omega)] at hLi
      exact Nat.le_trans (h.s i hi hLi) hk.size
/-- An allocation. -/
theorem J3.new {W0 : World} {N : Nat → Nat} {X : Nat → List Pr} {bs us : Nat → Nat} {L : Nat → Bool} {vc vp : Nat → Value} {w : World} (h : J3 W0 N X bs us L vc vp w) (j : Nat) (hj : j < 3) (h9 : L (9 + j) = false) :
    J3 W0 N X bs us (fun i => if 6 + j = i then true else L i) vc (up vp j (.pointer (some ⟨w.heap.size, 0, none⟩))) (w.alloc (.cells #[.slice none 0 0] 29)) := by
  have hk : Keeps (fun _ => False) w (w.alloc (.cells #[.slice none 0 0] 29)) := (Keeps.refl _ _).alloc _
  refine ⟨h.k.trans hk, fun i hi hLi => ?_, fun i hi hLi => ?_, fun i i' hi hi' hn hLi hLi' => ?_, fun i i' hii hi' hLi => ?_, fun i hi hLi => ?_⟩
  · rw [if_neg (by omega)] at hLi
    obtain ⟨A1, c1, es1, hc⟩ := h.m i hi hLi
    exact ⟨A1, c1, es1, hc.val, hc.mine.more hk, hc.prs, hc.ub⟩
  · by_cases e : i = j
    · subst e
      rw [up_at]
      refine ⟨_, rfl, h.k.size, fun _ => Blk.new _ _ _, fun h5 => ?_⟩
      rw [if_neg (by omega), h9] at h5
      cases h5
    · rw [if_neg (by omega)] at hLi
      obtain ⟨q, h1, h2, h3, h4⟩ := h.p i hi hLi
      rw [up_ne _ _ _ _ e]
      refine ⟨q, h1, h2, fun h5 => ?_, fun h5 => ?_⟩
      · rw [if_neg (by omega)] at h5
        exact (h3 h5).keeps hk id
      · rw [if_neg (by omega)] at h5
        obtain ⟨A1, c1, h6, h7⟩ := h4 h5
        exact ⟨A1, c1, h6, h7.keeps hk id⟩
  · by_cases e : i = j
    · subst e
      rw [if_neg (by omega)] at hLi'
      rw [up_at, up_ne _ _ _ _ (Ne.symm hn)]
      obtain ⟨q, h1, h2⟩ := h.blkLt hi' hLi'
      rw [h1]
      intro he
      injection he with he
      injection he with he
      injection he with he
      omega
    · by_cases e' : i' = j
      · subst e'
        rw [if_neg (by omega)] at hLi
        rw [up_at, up_ne _ _ _ _ hn]
        obtain ⟨q, h1, h2⟩ := h.blkLt hi hLi
        rw [h1]
        intro he
        injection he with he
        injection he with he
        injection he with he
        omega
      · rw [if_neg (by omega)] at hLi hLi'
        rw [up_ne _ _ _ _ e, up_ne _ _ _ _ e']
        exact h.d i i' hi hi' hn hLi hLi'
  · rw [if_neg (by omega)] at hLi
    exact h.o i i' hii hi' hLi
  · rw [if_neg (by omega)] at hLi
    exact Nat.le_trans (h.s i hi hLi) hk.size
/-- A store of what a call answered. -/
theorem J3.put {W0 : World} {N : Nat → Nat} {X : Nat → List Pr} {bs us : Nat → Nat} {L : Nat → Bool} {vc vp : Nat → Value} {w : World} (h : J3 W0 N X bs us L vc vp w) (j : Nat) (hj : j < 3) (h9 : L (9 + j) = false) (h6 : L (6 + j) = true)
    {A : Option Addr} {c q : Nat} (hv : vc j = .agg #[.slice A (N j) c]) (hq : vp j = .pointer (some ⟨q, 0, none⟩)) :
    J3 W0 N X bs us (fun i => if 9 + j = i then true else L i) vc vp (w.setCell ⟨q, 0, none⟩ (.slice A (N j) c)) := by
  obtain ⟨q1, g1, g2, g3, _⟩ := h.p j hj h6
  have e : q1 = q := by
    rw [hq] at g1
    injection g1 with g1
    injection g1 with g1
    injection g1 with g1
    exact g1.symm
  subst e
  have hb := g3 h9
  refine ⟨h.k.setCell (.inr (by exact g2)) _, fun i hi hLi => ?_, fun i hi hLi => ?_, fun i i' hi hi' hn hLi hLi' => ?_, fun i i' hii hi' hLi => ?_, fun i hi hLi => ?_⟩
  · rw [if_neg (by omega)] at hLi
    obtain ⟨A1, c1, es1, hc⟩ := h.m i hi hLi
    exact ⟨A1, c1, es1, hc.val, hc.mine.farRef hb _, hc.prs, hc.ub⟩
  · by_cases e : i = j
    · subst e
      refine ⟨q1, hq, g2, fun h5 => ?_, fun h5 => ⟨A, c, hv, hb.setCell 0 _⟩⟩
      rw [if_pos rfl] at h5
      cases h5
    · rw [if_neg (by omega)] at hLi
      obtain ⟨q2, h1, h2, h3, h4⟩ := h.p i hi hLi
      have hne : q2 ≠ q1 := fun e2 => by
        subst e2
        exact h.d i j hi hj e hLi h6 (by rw [h1, hq])
      refine ⟨q2, h1, h2, fun h5 => ?_, fun h5 => ?_⟩
      · rw [if_neg (by omega)] at h5
        exact (h3 h5).setFar hne _
      · rw [if_neg (by omega)] at h5
        obtain ⟨A1, c1, h6', h7⟩ := h4 h5
        exact ⟨A1, c1, h6', h7.setFar hne _⟩
  · rw [if_neg (by omega)] at hLi hLi'
    exact h.d i i' hi hi' hn hLi hLi'
  · rw [if_neg (by omega)] at hLi
    exact h.o i i' hii hi' hLi
  · rw [if_neg (by omega)] at hLi
    have := h.s i hi hLi
    simpa [World.setCell] using this
end Go.Proofs.Ytbekdcakmeejaaa.Ct
