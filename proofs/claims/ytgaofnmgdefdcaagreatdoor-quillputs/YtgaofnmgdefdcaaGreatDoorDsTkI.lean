/- Ways of numbers taken from a Reader (desc's takeInts, ends, TakeInts): any bytes. -/
import Derived.Test.YtgaofnmgdefdcaaGreatDoorJFrqScDsTk
namespace Go.Proofs.YtgaofnmgdefdcaaGreatDoor.Ds
open Go.RowKit Go.Proofs.YtgaofnmgdefdcaaGreatDoor.Gen Go.Proofs.YtgaofnmgdefdcaaGreatDoor.Wr Go.Proofs.YtgaofnmgdefdcaaGreatDoor.It Go.Proofs.YtgaofnmgdefdcaaGreatDoor.Ir Go.Proofs.YtgaofnmgdefdcaaGreatDoor.Ib Go.Proofs.YtgaofnmgdefdcaaGreatDoor.Tw Go.Proofs.YtgaofnmgdefdcaaGreatDoor.Hr Go.Proofs.YtgaofnmgdefdcaaGreatDoor.Hz Go.Proofs.YtgaofnmgdefdcaaGreatDoor.Hn Go.Proofs.YtgaofnmgdefdcaaGreatDoor.Hk Go.Proofs.YtgaofnmgdefdcaaGreatDoor.Ln

/-- A way that was taken: where its entries lie. -/
def GotI (base g : Nat) (p : D × RS) (w : World) (r : Ending) (w' : World) : Prop :=
  ∃ A n, r = .returned (.agg (dv A n n p.1)) ∧ Ents w' A n p.1.L ∧ n ≤ 256 ∧ (∀ b o, A = some ⟨b, o, none⟩ → w.heap.size ≤ b) ∧ IsRd base g p.2 w' ∧ Keeps (· = g) w w'
def zi : Array Value := #[.int .u8 0, .int .i64 0, .slice none 0 0, .int .i64 0, .int .i64 0]
/-- The blocks of a taking: the Reader's variable, the answer's, the way. -/
structure Tki (base g X : Nat) (A : Option Addr) (n : Nat) (d : D) (s : RS) (w wr : World) : Prop where
  box : Box w g wr
  res : Blk wr (w.heap.size + 1) 43 #[.int .u8 0, .int .i64 0, .slice none 0 0, .int .i64 0, .int .i64 0]
  row : Blk wr X 43 (dv A n n d)
  rd : IsRd base g s wr
  far : w.heap.size + 1 < X
theorem Tki.next {base g X n : Nat} {A : Option Addr} {d : D} {s s1 : RS} {w wr w1 : World} (h : Tki base g X A n d s w wr) (hr : IsRd base g s1 w1) (k : Keeps (· = g) wr w1) : Tki base g X A n d s1 w w1 :=
  ⟨h.box.next k, h.res.keeps k (by have := h.box.2.2; omega), h.row.keeps k (by have := h.box.2.2; have := h.far; omega), hr, h.far⟩
theorem Tki.set {base g X n n' i : Nat} {A A' : Option Addr} {d d' : D} {s : RS} {w wr : World} {u : Value} (h : Tki base g X A n d s w wr) (he : (dv A n n d).setIfInBounds i u = dv A' n' n' d') : Tki base g X A' n' d' s w (wr.setCell ⟨X, i, none⟩ u) := by
  have k : Keeps (· = X) wr (wr.setCell ⟨X, i, none⟩ u) := (Keeps.refl _ _).setOwn i _
  have hf := h.far
  refine ⟨⟨h.box.1.keeps k (by omega), h.box.2.1.setCell (p := ⟨X, i, none⟩) (.inr (by show w.heap.size ≤ X; omega)) _, h.box.2.2⟩, h.res.keeps k (by omega), ?_, h.rd.low k (fun b _ hb e => by have := h.box.2.2; omega), h.far⟩
  rw [← he]
  exact h.row.setCell i u
theorem dv_get (A : Option Addr) (n c : Nat) (d : D) : (dv A n c d)[0]? = some (.int .u8 d.K) ∧ (dv A n c d)[1]? = some (.int .i64 d.B) ∧ (dv A n c d)[2]? = some (.slice A n c) ∧ (dv A n c d)[3]? = some (.int .i64 d.le) ∧ (dv A n c d)[4]? = some (.int .i64 d.bi) := ⟨rfl, rfl, rfl, rfl, rfl⟩
theorem Tki.got {base g X n : Nat} {A : Option Addr} {d : D} {s : RS} {w wr w1 : World} {r : Ending} (h : Tki base g X A n d s w wr) (k : Keeps (· = w.heap.size + 1) wr w1) (hr : r = .returned (.agg (dv A n n d))) (hE : Ents wr A n d.L) (hn : n ≤ 256) (hA : ∀ b o, A = some ⟨b, o, none⟩ → w.heap.size ≤ b) (hX : 0 < n → ∀ b o, A = some ⟨b, o, none⟩ → b ≠ w.heap.size + 1) :
    GotI base g (d, s) w r w1 := by
  refine ⟨A, n, hr, hE.keeps k hX, hn, hA, h.rd.low k (fun b _ hb e => by have := h.box.2.2; omega), ?_⟩
  exact ⟨k.os.trans h.box.2.1.os, k.tape.trans h.box.2.1.tape, k.output.trans h.box.2.1.output, Nat.le_trans h.box.2.1.size k.size, fun x hx hn => (k.block x (Nat.lt_of_lt_of_le hx h.box.2.1.size) (by omega)).trans (h.box.2.1.block x hx hn)⟩
theorem keeps5 (w : World) (g : Nat) (a b c d e : Value) : Keeps (· = g) w (((((w.setCell ⟨g, 0, none⟩ a).setCell ⟨g, 1, none⟩ b).setCell ⟨g, 2, none⟩ c).setCell ⟨g, 3, none⟩ d).setCell ⟨g, 4, none⟩ e) :=
  (((((Keeps.refl _ _).setOwn 0 a).setOwn 1 b).setOwn 2 c).setOwn 3 d).setOwn 4 e
theorem put5 {w : World} {g : Nat} {t : TypeId} {u0 u1 u2 u3 u4 : Value} (h : Blk w g t #[u0, u1, u2, u3, u4]) (a b c d e : Value) : Blk (((((w.setCell ⟨g, 0, none⟩ a).setCell ⟨g, 1, none⟩ b).setCell ⟨g, 2, none⟩ c).setCell ⟨g, 3, none⟩ d).setCell ⟨g, 4, none⟩ e) g t #[a, b, c, d, e] := by
  simpa using ((((h.setCell 0 a).setCell 1 b).setCell 2 c).setCell 3 d).setCell 4 e

end Go.Proofs.YtgaofnmgdefdcaaGreatDoor.Ds
