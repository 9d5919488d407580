/- bits' Writers behind many puts; two of them beside each other: what the one turns leaves the other as it is. -/
import Derived.Test.YtaamnbminmcbpaaDoorBitPut
namespace Go.Proofs.YtaamnbminmcbpaaDoor.Bw
open Go.RowKit Go.Proofs.YtaamnbminmcbpaaDoor.Gen Go.Proofs.YtaamnbminmcbpaaDoor.Cl Go.Proofs.YtaamnbminmcbpaaDoor.Bp Go.Proofs.YtaamnbminmcbpaaDoor.Bf

theorem IsBw.alike {base g : Nat} {v : Value} {l : List Nat} {w w1 : World} (h : IsBw base g v l w) (he : w1.heap = w.heap) : IsBw base g v l w1 := by
  obtain ⟨xs, last, o, h, h2⟩ := h
  refine ⟨xs, last, o, ⟨h.low, by rw [he]; exact h.size, h.form, ?_, ?_, h.fit, h.byte⟩, h2⟩
  · have := h.blk
    unfold Blk at this ⊢
    rw [he]
    exact this
  · have := h.own
    unfold World.ownsRow at this ⊢
    rw [he]
    exact this
/-- Behind many puts: only what lies from base on has turned. -/
def Has (base g : Nat) (l : List Nat) (w w' : World) : Prop := ∃ v, IsBw base g v l w' ∧ Keeps (base ≤ ·) w w'
theorem Has.next {base g : Nat} {v : Value} {l m : List Nat} {w0 w w' : World} {r : Ending} (h : IsBw base g v l w) (k : Keeps (base ≤ ·) w0 w) (hp : Puts base g v m w r w') : Has base g m w0 w' := by
  obtain ⟨_, v', h1, h2⟩ := hp
  exact ⟨v', h1, k.trans (h2.keeps.mono fun b _ hb => (h.its b hb).1)⟩
/-- Two Writers that lie apart. -/
structure Two (base g1 g2 : Nat) (v1 v2 : Value) (l1 l2 : List Nat) (w0 w : World) : Prop where
  fst : IsBw base g1 v1 l1 w
  snd : IsBw base g2 v2 l2 w
  apart : ∀ k, Its g1 v1 k → ¬ Its g2 v2 k
  keeps : Keeps (base ≤ ·) w0 w
theorem Two.symm {base g1 g2 : Nat} {v1 v2 : Value} {l1 l2 : List Nat} {w0 w : World} (h : Two base g1 g2 v1 v2 l1 l2 w0 w) : Two base g2 g1 v2 v1 l2 l1 w0 w :=
  ⟨h.snd, h.fst, fun k h2 h1 => h.apart k h1 h2, h.keeps⟩
theorem Two.put {base g1 g2 : Nat} {v1 v2 : Value} {l1 l2 m : List Nat} {w0 w w' : World} {r : Ending} (h : Two base g1 g2 v1 v2 l1 l2 w0 w) (hp : Puts base g1 v1 m w r w') : ∃ v, Two base g1 g2 v v2 m l2 w0 w' := by
  obtain ⟨_, v', hi, hm⟩ := hp
  refine ⟨v', hi, h.snd.keeps hm.keeps (fun b h2 h1 => h.apart b h1 h2), fun k h1 h2 => ?_, h.keeps.trans (hm.keeps.mono fun b _ hb => (h.fst.its b hb).1)⟩
  rcases h1 with rfl | h1
  · exact h.apart k (.inl rfl) h2
  · rcases hm.at_ with e | ⟨b, e, hb⟩
    · exact h.apart k (.inr (e ▸ h1)) h2
    · rw [e] at h1
      injection h1 with h1
      have := (h.snd.its k h2).2
      omega
theorem Two.new (w : World) : Two w.heap.size w.heap.size (w.heap.size + 1) (.slice none 0 0) (.slice none 0 0) [] [] w ((w.alloc (.cells #[.slice none 0 0, .int .u64 0, .int .i64 0] 44)).alloc (.cells #[.slice none 0 0, .int .u64 0, .int .i64 0] 44)) := by
  have h := new_bw (w.alloc (.cells #[.slice none 0 0, .int .u64 0, .int .i64 0] 44))
  rw [World.size_alloc] at h
  refine ⟨(new_bw w).keeps (S := fun _ => False) ((Keeps.refl _ _).alloc _) (fun _ _ => id), ?_, ?_, ((Keeps.refl _ _).alloc _).alloc _⟩
  · obtain ⟨xs, last, o, h, h2⟩ := h
    exact ⟨xs, last, o, ⟨by omega, by have := h.size; omega, h.form, h.blk, own_base h.own (by omega), h.fit, h.byte⟩, h2⟩
  · rintro k (rfl | h1) (h2 | h2)
    · omega
    · cases h2
    · cases h1
    · cases h1
end Go.Proofs.YtaamnbminmcbpaaDoor.Bw
