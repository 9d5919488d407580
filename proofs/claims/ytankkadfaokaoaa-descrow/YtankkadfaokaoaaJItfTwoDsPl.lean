/- A Writer beside a row of bytes of one's own (what is wanted): they lie apart, whatever is put or appended. Rows of numbers as bytes, one behind the other. -/
/- Ways to put a series, as plain data: whether they may be; their bytes; taken from bytes (desc). Names no function of the program. -/
import Derived.Test.YtankkadfaokaoaaItfBack
import Derived.Test.YtankkadfaokaoaaItfWr
import Derived.Test.YtankkadfaokaoaaHufNewC

namespace Go.Proofs.Ytankkadfaokaoaa.Tw
open Go.RowKit Go.Proofs.Ytankkadfaokaoaa.Gen Go.Proofs.Ytankkadfaokaoaa.Wr Go.Proofs.Ytankkadfaokaoaa.Ww Go.Proofs.Ytankkadfaokaoaa.It

def Two (base g : Nat) (ys xs : List Int) (want : Value) (n : Nat) (w : World) : Prop :=
  ∃ v, IsWr base g v ys w ∧ w.ownsRow base 5 1 want n (bv xs) ∧ ∀ b, Its g v b → want.ownBlock ≠ some b
theorem two_new (t : TypeId) (ht : t ≠ 5) (w : World) : Two w.heap.size w.heap.size [] [] (.slice none 0 0) 0 (w.alloc (.cells #[.slice none 0 0] t)) :=
  ⟨_, new_of t ht w, World.ownsRow_nil _ _ _ _, fun b _ => by simp [Value.ownBlock]⟩
/-- Something is put. -/
theorem two_put {base g : Nat} {v : Value} {ys zs xs : List Int} {want : Value} {n : Nat} {w w1 : World} {r : Ending} (ho : w.ownsRow base 5 1 want n (bv xs)) (ha : ∀ b, Its g v b → want.ownBlock ≠ some b) (hp : Puts base g v zs w r w1) (_h : IsWr base g v ys w) : Two base g zs xs want n w1 := by
  obtain ⟨_, v1, hw1, hk, hown⟩ := hp
  refine ⟨v1, hw1, own_keeps ho hk (fun b hb hi => ha b hi hb), fun b hb hi => ?_⟩
  rcases hb with rfl | hb
  · exact ha _ (.inl rfl) hi
  · rcases hown with hown | ⟨b', hown, hb'⟩
    · exact ha b (.inr (hown ▸ hb)) hi
    · rw [hown] at hb
      injection hb with hb
      have := (ho.lt b hi).2
      omega
/-- New memory is made. -/
theorem two_more {base g : Nat} {ys xs : List Int} {want : Value} {n : Nat} {w w1 : World} (h : Two base g ys xs want n w) (k : Keeps (fun _ => False) w w1) : Two base g ys xs want n w1 := by
  obtain ⟨v, hw, ho, ha⟩ := h
  exact ⟨v, hw.keeps k (fun _ _ => id), own_keeps ho k (fun _ _ => id), ha⟩
/-- Something is appended to the row. -/
theorem two_app {base g : Nat} {ys xs zs : List Int} {want want1 : Value} {n m : Nat} {w w1 : World} (h : Two base g ys xs want n w) (hg : w.grownBy w1 want.ownBlock) (ho1 : w1.ownsRow base 5 1 want1 m (bv zs)) (hat : want1.ownBlock = want.ownBlock ∨ want1.ownBlock = some w.heap.size) : Two base g ys zs want1 m w1 := by
  obtain ⟨v, hw, ho, ha⟩ := h
  have k : Keeps (fun b => want.ownBlock = some b) w w1 := (Keeps.refl _ _).grown hg (fun b hb => .inl hb)
  refine ⟨v, hw.keeps k (fun b hb hi => ha b hb hi), ho1, fun b hb hi => ?_⟩
  rcases hat with hat | hat
  · exact ha b hb (hat ▸ hi)
  · rw [hat] at hi
    injection hi with hi
    rcases hb with hb | hb
    · have := hw.lt
      omega
    · have := (hw.2.2.2.2.2.lt b hb).2
      omega
theorem own_some {w : World} {base : Nat} {A : Option Addr} {n c : Nat} {xs : List Value} (h : w.ownsRow base 5 1 (.slice A n c) n xs) (hn : 1 ≤ n) : ∃ ad, A = some ad := by
  rcases h.2 with ⟨_, h0⟩ | ⟨g', cap, cur, hv, _⟩
  · omega
  · injection hv with hA
    exact ⟨_, hA⟩

/-! ### numbers one behind the other -/
def encs (e : Int → List Int) (zs : List Int) : List Int := zs.flatMap e
theorem encs_snoc (e : Int → List Int) (zs : List Int) (x : Int) : encs e (zs ++ [x]) = encs e zs ++ e x := by simp [encs]
theorem take_snoc {zs : List Int} {j : Nat} {x : Int} (h : zs[j]? = some x) : zs.take (j + 1) = zs.take j ++ [x] := by
  rw [List.take_add_one, h]; rfl
theorem encs_take {e : Int → List Int} {zs : List Int} {j : Nat} {x : Int} (h : zs[j]? = some x) : encs e (zs.take (j + 1)) = encs e (zs.take j) ++ e x := by
  rw [take_snoc h, encs_snoc]
theorem encs_len {e : Int → List Int} {m : Nat} (h : ∀ x, (e x).length ≤ m) : ∀ zs, (encs e zs).length ≤ m * zs.length
  | [] => by simp [encs]
  | x :: zs => by
    have h1 := encs_len h zs
    have h2 := h x
    simp only [encs, List.flatMap_cons, List.length_append, List.length_cons, Nat.mul_add] at h1 ⊢
    omega
theorem encs_byte {e : Int → List Int} {zs : List Int} (h : ∀ n ∈ zs, ∀ x ∈ e n, 0 ≤ x ∧ x < 256) : ∀ x ∈ encs e zs, 0 ≤ x ∧ x < 256 := by
  intro x hx
  simp only [encs, List.mem_flatMap] at hx
  obtain ⟨n, hn, hx⟩ := hx
  exact h n hn x hx
/-- From where the number at place j begins. -/
theorem encs_drop (e : Int → List Int) {zs tail : List Int} {n j : Nat} {x : Int} (h : zs[j]? = some x) (hj : j < n) : ∃ rest, (encs e (zs.take n) ++ tail).drop (encs e (zs.take j)).length = e x ++ rest := by
  have h1 : (zs.take n)[j]? = some x := by rw [List.getElem?_take, if_pos hj, h]
  obtain ⟨hl, hx⟩ := List.getElem?_eq_some_iff.1 h1
  have h2 : zs.take n = zs.take j ++ x :: (zs.take n).drop (j + 1) := by
    have h3 : (zs.take n).take j = zs.take j := by rw [List.take_take, Nat.min_eq_left (by omega)]
    rw [← h3]
    conv => lhs; rw [← List.take_append_drop j (zs.take n)]
    rw [List.drop_eq_getElem_cons hl, hx]
  refine ⟨encs e ((zs.take n).drop (j + 1)) ++ tail, ?_⟩
  have h4 : encs e (zs.take n) = encs e (zs.take j) ++ (e x ++ encs e ((zs.take n).drop (j + 1))) := by
    conv => lhs; rw [h2]
    simp [encs]
  rw [h4, List.append_assoc, List.drop_left, List.append_assoc]
end Go.Proofs.Ytankkadfaokaoaa.Tw

namespace Go.Proofs.Ytankkadfaokaoaa.Ds
open Go.RowKit Go.Proofs.Ytankkadfaokaoaa.Gen Go.Proofs.Ytankkadfaokaoaa.Wr Go.Proofs.Ytankkadfaokaoaa.It Go.Proofs.Ytankkadfaokaoaa.Ir Go.Proofs.Ytankkadfaokaoaa.Ib Go.Proofs.Ytankkadfaokaoaa.Hr Go.Proofs.Ytankkadfaokaoaa.Hn Go.Proofs.Ytankkadfaokaoaa.Hk Go.Proofs.Ytankkadfaokaoaa.Ln Go.Proofs.Ytankkadfaokaoaa.Tw

/-- How numbers are put. -/
structure D where
  K : Int
  B : Int
  L : List G
  le : Int
  bi : Int
/-- How bytes are put. -/
structure E where
  d : D
  K : Int
  B : Int
  S : Int
def blkE (n : Int) : Int := if n < 1 ∨ 60000 < n then 2 else 0
def fixE (l b : Int) : Int := if l < -2147483647 ∨ 2147483647 < l ∨ b < 0 ∨ 31 < b then 2 else 0
/-- What huff.New says of entries. -/
def newE (L : List G) : Int :=
  if L.length = 0 ∨ 256 < L.length then 7 else match (List.range L.length).find? (fun i => decide (errAt L i ≠ 0)) with
    | some i => errAt L i
    | none => if 2 ^ 20 < posOf (nats' L) then 13 else 0
theorem newE_of {w w' : World} {L : List G} {r : Ending} (h : NewAns w w' L r) : ∃ p, r = .returned (.tuple #[.pointer p, .int .i64 (newE L)]) := by
  have hnone : (∀ i, i < L.length → errAt L i = 0) → (List.range L.length).find? (fun i => decide (errAt L i ≠ 0)) = none := by
    intro h
    rw [List.find?_eq_none]
    intro i hi
    simp at hi
    simp [h i hi]
  rcases h with ⟨h1, rfl⟩ | ⟨h1, i, hi, hlt, hne, rfl⟩ | ⟨h1, h2, h3, rfl⟩ | ⟨h1, h2, h3, p, rfl, _⟩
  · exact ⟨none, by rw [newE, if_pos h1]⟩
  · refine ⟨none, ?_⟩
    have hf : (List.range L.length).find? (fun i => decide (errAt L i ≠ 0)) = some i := by
      rw [List.find?_range_eq_some]
      exact ⟨by simpa using hne, by simpa using hi, fun j hj => by simp [hlt j hj]⟩
    rw [newE, if_neg (by omega), hf]
  · exact ⟨none, by rw [newE, if_neg (by omega), hnone h2]; simp [h3]⟩
  · refine ⟨some ⟨p, 0, none⟩, ?_⟩
    have : newE L = 0 := by rw [newE, if_neg (by omega), hnone h2]; simp [show ¬ 2 ^ 20 < posOf (nats' L) by omega]
    rw [this]
/-- May it be one? -/
def chkI (d : D) : Int := if d.K = 1 then blkE d.B else if d.K = 3 then newE d.L else if d.K = 6 then fixE d.le d.bi else 5
def chkA (a : E) : Int := if blkE a.B ≠ 0 then blkE a.B else if a.K = 4 then chkI a.d else if a.K = 5 then 0 else 5

/-- Its value, the entries' row told apart. -/
def dv (A : Option Addr) (n c : Nat) (d : D) : Array Value := #[.int .u8 d.K, .int .i64 d.B, .slice A n c, .int .i64 d.le, .int .i64 d.bi]
def av (A : Option Addr) (n c : Nat) (a : E) : Array Value := #[.int .u8 a.d.K, .int .i64 a.d.B, .slice A n c, .int .i64 a.d.le, .int .i64 a.d.bi, .int .u8 a.K, .int .i64 a.B, .int .u8 a.S]
/-- Its entries lie there. -/
def Ents (w : World) (A : Option Addr) (n : Nat) (L : List G) : Prop := RowAt w A (gvs L) ∧ L.length = n ∧ n ≤ 1000
theorem Ents.keeps {S : Nat → Prop} {w w1 : World} {A : Option Addr} {n : Nat} {L : List G} (h : Ents w A n L) (k : Keeps S w w1) (hn : 0 < n → ∀ b o, A = some ⟨b, o, none⟩ → ¬ S b) : Ents w1 A n L := by
  refine ⟨?_, h.2⟩
  rcases Nat.eq_zero_or_pos n with h0 | h0
  · have : L = [] := List.eq_nil_of_length_eq_zero (by rw [h.2.1, h0])
    exact .inl (by rw [this]; rfl)
  · exact h.1.keeps k (hn h0)
theorem Ents.more {w w1 : World} {A : Option Addr} {n : Nat} {L : List G} (h : Ents w A n L) (k : Keeps (fun _ => False) w w1) : Ents w1 A n L := h.keeps k (fun _ _ _ _ => id)
theorem Ents.lt {w : World} {b o n : Nat} {L : List G} (h : Ents w (some ⟨b, o, none⟩) n L) (h0 : 0 < n) : b < w.heap.size := by
  rcases h.1 with h1 | ⟨b', o', e, hb, _⟩
  · have := gvs_len L
    rw [h1, h.2.1] at this
    simp at this
    omega
  · injection e with e
    injection e with e1
    omega
theorem dv_one (A : Option Addr) (n c : Nat) (d : D) : (dv A n c d).all (·.oneCell') = true := by simp [dv, Value.oneCell']
theorem av_one (A : Option Addr) (n c : Nat) (a : E) : (av A n c a).all (·.oneCell') = true := by simp [av, Value.oneCell']
theorem dv_info (A : Option Addr) (n c : Nat) (d : D) : (Try.prog.info? 31).map (·.size) = some (dv A n c d).size := by kernel_rfl
theorem av_info (A : Option Addr) (n c : Nat) (a : E) : (Try.prog.info? 34).map (·.size) = some (av A n c a).size := by kernel_rfl

/-! ### its bytes -/
def sg (n : Int) : Int := n % 4294967296
def symB (L : List G) : List Int := encs (fun n => encInt (sg n)) (L.map (·.1))
def sizB (L : List G) : List Int := encs encInt (L.map (·.2))
def entB (L : List G) : List Int := encInt L.length ++ (symB L ++ sizB L)
def bodI (d : D) : List Int := if d.K = 1 then encInt d.B else if d.K = 3 then entB d.L else if d.K = 6 then encInt (sg d.le) ++ encInt d.bi else []
def bytI (d : D) : List Int := encInt d.K ++ bodI d
def bytA (a : E) : List Int := encInt a.K ++ (encInt a.B ++ if a.K = 5 then [a.S] else bytI a.d)
theorem entB_len (L : List G) : (entB L).length ≤ 5 + 10 * L.length := by
  have h1 := encInt_len (L.length : Int)
  have h2 := encs_len (e := fun n => encInt (sg n)) (m := 5) (fun x => (encInt_len _).2) (L.map (·.1))
  have h3 := encs_len (e := encInt) (m := 5) (fun x => (encInt_len _).2) (L.map (·.2))
  simp only [List.length_map] at h2 h3
  simp only [entB, symB, sizB, List.length_append]
  omega
theorem bytI_len (d : D) : (bytI d).length ≤ 20 + 10 * d.L.length := by
  have h1 := encInt_len d.K
  have h2 := encInt_len d.B
  have h3 := encInt_len (sg d.le)
  have h4 := encInt_len d.bi
  have h5 := entB_len d.L
  unfold bytI bodI
  rw [List.length_append]
  split
  · omega
  · split
    · omega
    · split
      · rw [List.length_append]; omega
      · simp; omega
theorem bytA_len (a : E) : (bytA a).length ≤ 40 + 10 * a.d.L.length := by
  have h1 := encInt_len a.K
  have h2 := encInt_len a.B
  have h3 := bytI_len a.d
  unfold bytA
  rw [List.length_append, List.length_append]
  split
  · simp; omega
  · omega
end Go.Proofs.Ytankkadfaokaoaa.Ds
