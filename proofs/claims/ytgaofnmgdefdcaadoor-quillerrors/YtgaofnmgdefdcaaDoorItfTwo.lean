/- A Writer beside a row of bytes of one's own (what is wanted): they lie apart, whatever is put or appended. Rows of numbers as bytes, one behind the other. -/
import Derived.Test.YtgaofnmgdefdcaaDoorItfBack
import Derived.Test.YtgaofnmgdefdcaaDoorItfWr
namespace Go.Proofs.YtgaofnmgdefdcaaDoor.Tw
open Go.RowKit Go.Proofs.YtgaofnmgdefdcaaDoor.Gen Go.Proofs.YtgaofnmgdefdcaaDoor.Wr Go.Proofs.YtgaofnmgdefdcaaDoor.Ww Go.Proofs.YtgaofnmgdefdcaaDoor.It

def Two (base g : Nat) (ys xs : List Int) (want : Value) (n : Nat) (w : World) : Prop :=
  ∃ v, IsWr base g v ys w ∧ w.ownsRow base 5 1 want n (bv xs) ∧ ∀ b, Its g v b → want.ownBlock ≠ some b
theorem two_new (t : TypeId) (ht : t ≠ 5) (w : World) : Two w.heap.size w.heap.size [] [] (.slice none 0 0) 0 (w.alloc (.cells #[.slice none 0 0] t)) :=
  ⟨_, new_of t ht w, World.ownsRow_nil _ _ _ _, fun b _ => by simp [Value.ownBlock]⟩
/-- Something is put. -/
theorem two_put {base g : Nat} {v : Value} {ys zs xs : List Int} {want : Value} {n : Nat} {w w1 : World} {r : Ending} (ho : w.ownsRow base 5 1 want n (bv xs)) (ha : ∀ b, Its g v b → want.ownBlock ≠ some b) (hp : Puts base g v zs w r w1) (_h : IsWr base g v ys w) : Two base g zs xs want n w1 := by
  obtain ⟨_, v1, hw1, hk, hown⟩ := hp
  refine ⟨v1, hw1, own_keeps ho hk (fun b hb hi => ha b hi hb), fun b hb hi => ?_⟩
  rcases hb with rfl | hb
  · exact ha _ (.inl rfl) hi
  · rcases hown with hown | ⟨b', hown, hb'⟩
    · exact ha b (.inr (hown ▸ hb)) hi
    · rw [hown] at hb
      injection hb with hb
      have := (ho.lt b hi).2
      omega
/-- New memory is made. -/
theorem two_more {base g : Nat} {ys xs : List Int} {want : Value} {n : Nat} {w w1 : World} (h : Two base g ys xs want n w) (k : Keeps (fun _ => False) w w1) : Two base g ys xs want n w1 := by
  obtain ⟨v, hw, ho, ha⟩ := h
  exact ⟨v, hw.keeps k (fun _ _ => id), own_keeps ho k (fun _ _ => id), ha⟩
/-- Something is appended to the row. -/
theorem two_app {base g : Nat} {ys xs zs : List Int} {want want1 : Value} {n m : Nat} {w w1 : World} (h : Two base g ys xs want n w) (hg : w.grownBy w1 want.ownBlock) (ho1 : w1.ownsRow base 5 1 want1 m (bv zs)) (hat : want1.ownBlock = want.ownBlock ∨ want1.ownBlock = some w.heap.size) : Two base g ys zs want1 m w1 := by
  obtain ⟨v, hw, ho, ha⟩ := h
  have k : Keeps (fun b => want.ownBlock = some b) w w1 := (Keeps.refl _ _).grown hg (fun b hb => .inl hb)
  refine ⟨v, hw.keeps k (fun b hb hi => ha b hb hi), ho1, fun b hb hi => ?_⟩
  rcases hat with hat | hat
  · exact ha b hb (hat ▸ hi)
  · rw [hat] at hi
    injection hi with hi
    rcases hb with hb | hb
    · have := hw.lt
      omega
    · have := (hw.2.2.2.2.2.lt b hb).2
      omega
theorem own_some {w : World} {base : Nat} {A : Option Addr} {n c : Nat} {xs : List Value} (h : w.ownsRow base 5 1 (.slice A n c) n xs) (hn : 1 ≤ n) : ∃ ad, A = some ad := by
  rcases h.2 with ⟨_, h0⟩ | ⟨g', cap, cur, hv, _⟩
  · omega
  · injection hv with hA
    exact ⟨_, hA⟩

/-! ### numbers one behind the other -/
def encs (e : Int → List Int) (zs : List Int) : List Int := zs.flatMap e
theorem encs_snoc (e : Int → List Int) (zs : List Int) (x : Int) : encs e (zs ++ [x]) = encs e zs ++ e x := by simp [encs]
theorem take_snoc {zs : List Int} {j : Nat} {x : Int} (h : zs[j]? = some x) : zs.take (j + 1) = zs.take j ++ [x] := by
  rw [List.take_add_one, h]; rfl
theorem encs_take {e : Int → List Int} {zs : List Int} {j : Nat} {x : Int} (h : zs[j]? = some x) : encs e (zs.take (j + 1)) = encs e (zs.take j) ++ e x := by
  rw [take_snoc h, encs_snoc]
theorem encs_len {e : Int → List Int} {m : Nat} (h : ∀ x, (e x).length ≤ m) : ∀ zs, (encs e zs).length ≤ m * zs.length
  | [] => by simp [encs]
  | x :: zs => by
    have h1 := encs_len h zs
    have h2 := h x
    simp only [encs, List.flatMap_cons, List.length_append, List.length_cons, Nat.mul_add] at h1 ⊢
    omega
theorem encs_byte {e : Int → List Int} {zs : List Int} (h : ∀ n ∈ zs, ∀ x ∈ e n, 0 ≤ x ∧ x < 256) : ∀ x ∈ encs e zs, 0 ≤ x ∧ x < 256 := by
  intro x hx
  simp only [encs, List.mem_flatMap] at hx
  obtain ⟨n, hn, hx⟩ := hx
  exact h n hn x hx
/-- From where the number at place j begins. -/
theorem encs_drop (e : Int → List Int) {zs tail : List Int} {n j : Nat} {x : Int} (h : zs[j]? = some x) (hj : j < n) : ∃ rest, (encs e (zs.take n) ++ tail).drop (encs e (zs.take j)).length = e x ++ rest := by
  have h1 : (zs.take n)[j]? = some x := by rw [List.getElem?_take, if_pos hj, h]
  obtain ⟨hl, hx⟩ := List.getElem?_eq_some_iff.1 h1
  have h2 : zs.take n = zs.take j ++ x :: (zs.take n).drop (j + 1) := by
    have h3 : (zs.take n).take j = zs.take j := by rw [List.take_take, Nat.min_eq_left (by omega)]
    rw [← h3]
    conv => lhs; rw [← List.take_append_drop j (zs.take n)]
    rw [List.drop_eq_getElem_cons hl, hx]
  refine ⟨encs e ((zs.take n).drop (j + 1)) ++ tail, ?_⟩
  have h4 : encs e (zs.take n) = encs e (zs.take j) ++ (e x ++ encs e ((zs.take n).drop (j + 1))) := by
    conv => lhs; rw [h2]
    simp [encs]
  rw [h4, List.append_assoc, List.drop_left, List.append_assoc]
end Go.Proofs.YtgaofnmgdefdcaaDoor.Tw
