/- Ways of bytes taken from a Reader (desc's takeArrays): any bytes. -/
import Derived.Test.YtgaofnmgdefdcaaGreatDoorDsTkI
namespace Go.Proofs.YtgaofnmgdefdcaaGreatDoor.Ds
open Go.RowKit Go.Proofs.YtgaofnmgdefdcaaGreatDoor.Gen Go.Proofs.YtgaofnmgdefdcaaGreatDoor.Wr Go.Proofs.YtgaofnmgdefdcaaGreatDoor.It Go.Proofs.YtgaofnmgdefdcaaGreatDoor.Ir Go.Proofs.YtgaofnmgdefdcaaGreatDoor.Ib Go.Proofs.YtgaofnmgdefdcaaGreatDoor.Tw Go.Proofs.YtgaofnmgdefdcaaGreatDoor.Hr Go.Proofs.YtgaofnmgdefdcaaGreatDoor.Hz Go.Proofs.YtgaofnmgdefdcaaGreatDoor.Hn Go.Proofs.YtgaofnmgdefdcaaGreatDoor.Hk Go.Proofs.YtgaofnmgdefdcaaGreatDoor.Ln

/-- A way that was taken: where its entries lie. -/
def GotA (base g : Nat) (p : E × RS) (w : World) (r : Ending) (w' : World) : Prop :=
  ∃ A n, r = .returned (.agg (av A n n p.1)) ∧ Ents w' A n p.1.d.L ∧ n ≤ 256 ∧ (∀ b o, A = some ⟨b, o, none⟩ → w.heap.size ≤ b) ∧ IsRd base g p.2 w' ∧ Keeps (· = g) w w'
/-- The blocks of a taking: the Reader's variable, the answer's, the way. -/
structure Tka (base g X : Nat) (A : Option Addr) (n : Nat) (a : E) (s : RS) (w wr : World) : Prop where
  box : Box w g wr
  res : Blk wr (w.heap.size + 1) 45 #[.int .u8 0, .int .i64 0, .slice none 0 0, .int .i64 0, .int .i64 0, .int .u8 0, .int .i64 0, .int .u8 0]
  row : Blk wr X 45 (av A n n a)
  rd : IsRd base g s wr
  far : w.heap.size + 1 < X
theorem Tka.next {base g X n : Nat} {A : Option Addr} {a : E} {s s1 : RS} {w wr w1 : World} (h : Tka base g X A n a s w wr) (hr : IsRd base g s1 w1) (k : Keeps (· = g) wr w1) : Tka base g X A n a s1 w w1 :=
  ⟨h.box.next k, h.res.keeps k (by have := h.box.2.2; omega), h.row.keeps k (by have := h.box.2.2; have := h.far; omega), hr, h.far⟩
theorem Tka.set {base g X n n' i : Nat} {A A' : Option Addr} {a a' : E} {s : RS} {w wr : World} {u : Value} (h : Tka base g X A n a s w wr) (he : (av A n n a).setIfInBounds i u = av A' n' n' a') : Tka base g X A' n' a' s w (wr.setCell ⟨X, i, none⟩ u) := by
  have k : Keeps (· = X) wr (wr.setCell ⟨X, i, none⟩ u) := (Keeps.refl _ _).setOwn i _
  have hf := h.far
  refine ⟨⟨h.box.1.keeps k (by omega), h.box.2.1.setCell (p := ⟨X, i, none⟩) (.inr (by show w.heap.size ≤ X; omega)) _, h.box.2.2⟩, h.res.keeps k (by omega), ?_, h.rd.low k (fun b _ hb e => by have := h.box.2.2; omega), h.far⟩
  rw [← he]
  exact h.row.setCell i u
theorem Tka.got {base g X n : Nat} {A : Option Addr} {a : E} {s : RS} {w wr w1 : World} {r : Ending} (h : Tka base g X A n a s w wr) (k : Keeps (· = w.heap.size + 1) wr w1) (hr : r = .returned (.agg (av A n n a))) (hE : Ents wr A n a.d.L) (hn : n ≤ 256) (hA : ∀ b o, A = some ⟨b, o, none⟩ → w.heap.size ≤ b) (hX : 0 < n → ∀ b o, A = some ⟨b, o, none⟩ → b ≠ w.heap.size + 1) :
    GotA base g (a, s) w r w1 := by
  refine ⟨A, n, hr, hE.keeps k hX, hn, hA, h.rd.low k (fun b _ hb e => by have := h.box.2.2; omega), ?_⟩
  exact ⟨k.os.trans h.box.2.1.os, k.tape.trans h.box.2.1.tape, k.output.trans h.box.2.1.output, Nat.le_trans h.box.2.1.size k.size, fun x hx hn => (k.block x (Nat.lt_of_lt_of_le hx h.box.2.1.size) (by omega)).trans (h.box.2.1.block x hx hn)⟩
theorem keeps8 (w : World) (g : Nat) (a0 a1 a2 a3 a4 a5 a6 a7 : Value) : Keeps (· = g) w ((((((((w.setCell ⟨g, 0, none⟩ a0).setCell ⟨g, 1, none⟩ a1).setCell ⟨g, 2, none⟩ a2).setCell ⟨g, 3, none⟩ a3).setCell ⟨g, 4, none⟩ a4).setCell ⟨g, 5, none⟩ a5).setCell ⟨g, 6, none⟩ a6).setCell ⟨g, 7, none⟩ a7) :=
  ((((((((Keeps.refl _ _).setOwn 0 a0).setOwn 1 a1).setOwn 2 a2).setOwn 3 a3).setOwn 4 a4).setOwn 5 a5).setOwn 6 a6).setOwn 7 a7
theorem put8 {w : World} {g : Nat} {t : TypeId} {u0 u1 u2 u3 u4 u5 u6 u7 : Value} (h : Blk w g t #[u0, u1, u2, u3, u4, u5, u6, u7]) (a0 a1 a2 a3 a4 a5 a6 a7 : Value) : Blk ((((((((w.setCell ⟨g, 0, none⟩ a0).setCell ⟨g, 1, none⟩ a1).setCell ⟨g, 2, none⟩ a2).setCell ⟨g, 3, none⟩ a3).setCell ⟨g, 4, none⟩ a4).setCell ⟨g, 5, none⟩ a5).setCell ⟨g, 6, none⟩ a6).setCell ⟨g, 7, none⟩ a7) g t #[a0, a1, a2, a3, a4, a5, a6, a7] := by
  simpa using (((((((h.setCell 0 a0).setCell 1 a1).setCell 2 a2).setCell 3 a3).setCell 4 a4).setCell 5 a5).setCell 6 a6).setCell 7 a7

end Go.Proofs.YtgaofnmgdefdcaaGreatDoor.Ds
