/- Ways to put a series, as plain data: whether they may be; their bytes; taken from bytes (desc). Names no function of the program. -/
import Derived.Test.YtgaofnmgdefdcaaDoorHufNewC
import Derived.Test.YtgaofnmgdefdcaaDoorItfTwo
import Derived.Test.YtgaofnmgdefdcaaDoorItfBack
namespace Go.Proofs.YtgaofnmgdefdcaaDoor.Ds
open Go.RowKit Go.Proofs.YtgaofnmgdefdcaaDoor.Gen Go.Proofs.YtgaofnmgdefdcaaDoor.Wr Go.Proofs.YtgaofnmgdefdcaaDoor.It Go.Proofs.YtgaofnmgdefdcaaDoor.Ir Go.Proofs.YtgaofnmgdefdcaaDoor.Ib Go.Proofs.YtgaofnmgdefdcaaDoor.Hr Go.Proofs.YtgaofnmgdefdcaaDoor.Hn Go.Proofs.YtgaofnmgdefdcaaDoor.Hk Go.Proofs.YtgaofnmgdefdcaaDoor.Ln Go.Proofs.YtgaofnmgdefdcaaDoor.Tw

/-- How numbers are put. -/
structure D where
  K : Int
  B : Int
  L : List G
  le : Int
  bi : Int
/-- How bytes are put. -/
structure E where
  d : D
  K : Int
  B : Int
  S : Int
def blkE (n : Int) : Int := if n < 1 ∨ 60000 < n then 2 else 0
def fixE (l b : Int) : Int := if l < -2147483647 ∨ 2147483647 < l ∨ b < 0 ∨ 31 < b then 2 else 0
/-- What huff.New says of entries. -/
def newE (L : List G) : Int :=
  if L.length = 0 ∨ 256 < L.length then 7 else match (List.range L.length).find? (fun i => decide (errAt L i ≠ 0)) with
    | some i => errAt L i
    | none => if 2 ^ 20 < posOf (nats' L) then 13 else 0
theorem newE_of {w w' : World} {L : List G} {r : Ending} (h : NewAns w w' L r) : ∃ p, r = .returned (.tuple #[.pointer p, .int .i64 (newE L)]) := by
  have hnone : (∀ i, i < L.length → errAt L i = 0) → (List.range L.length).find? (fun i => decide (errAt L i ≠ 0)) = none := by
    intro h
    rw [List.find?_eq_none]
    intro i hi
    simp at hi
    simp [h i hi]
  rcases h with ⟨h1, rfl⟩ | ⟨h1, i, hi, hlt, hne, rfl⟩ | ⟨h1, h2, h3, rfl⟩ | ⟨h1, h2, h3, p, rfl, _⟩
  · exact ⟨none, by rw [newE, if_pos h1]⟩
  · refine ⟨none, ?_⟩
    have hf : (List.range L.length).find? (fun i => decide (errAt L i ≠ 0)) = some i := by
      rw [List.find?_range_eq_some]
      exact ⟨by simpa using hne, by simpa using hi, fun j hj => by simp [hlt j hj]⟩
    rw [newE, if_neg (by omega), hf]
  · exact ⟨none, by rw [newE, if_neg (by omega), hnone h2]; simp [h3]⟩
  · refine ⟨some ⟨p, 0, none⟩, ?_⟩
    have : newE L = 0 := by rw [newE, if_neg (by omega), hnone h2]; simp [show ¬ 2 ^ 20 < posOf (nats' L) by omega]
    rw [this]
/-- May it be one? -/
def chkI (d : D) : Int := if d.K = 1 then blkE d.B else if d.K = 3 then newE d.L else if d.K = 6 then fixE d.le d.bi else 5
def chkA (a : E) : Int := if blkE a.B ≠ 0 then blkE a.B else if a.K = 4 then chkI a.d else if a.K = 5 then 0 else 5

/-- Its value, the entries' row told apart. -/
def dv (A : Option Addr) (n c : Nat) (d : D) : Array Value := #[.int .u8 d.K, .int .i64 d.B, .slice A n c, .int .i64 d.le, .int .i64 d.bi]
def av (A : Option Addr) (n c : Nat) (a : E) : Array Value := #[.int .u8 a.d.K, .int .i64 a.d.B, .slice A n c, .int .i64 a.d.le, .int .i64 a.d.bi, .int .u8 a.K, .int .i64 a.B, .int .u8 a.S]
/-- Its entries lie there. -/
def Ents (w : World) (A : Option Addr) (n : Nat) (L : List G) : Prop := RowAt w A (gvs L) ∧ L.length = n ∧ n ≤ 1000
theorem Ents.keeps {S : Nat → Prop} {w w1 : World} {A : Option Addr} {n : Nat} {L : List G} (h : Ents w A n L) (k : Keeps S w w1) (hn : 0 < n → ∀ b o, A = some ⟨b, o, none⟩ → ¬ S b) : Ents w1 A n L := by
  refine ⟨?_, h.2⟩
  rcases Nat.eq_zero_or_pos n with h0 | h0
  · have : L = [] := List.eq_nil_of_length_eq_zero (by rw [h.2.1, h0])
    exact .inl (by rw [this]; rfl)
  · exact h.1.keeps k (hn h0)
theorem Ents.more {w w1 : World} {A : Option Addr} {n : Nat} {L : List G} (h : Ents w A n L) (k : Keeps (fun _ => False) w w1) : Ents w1 A n L := h.keeps k (fun _ _ _ _ => id)
theorem Ents.lt {w : World} {b o n : Nat} {L : List G} (h : Ents w (some ⟨b, o, none⟩) n L) (h0 : 0 < n) : b < w.heap.size := by
  rcases h.1 with h1 | ⟨b', o', e, hb, _⟩
  · have := gvs_len L
    rw [h1, h.2.1] at this
    simp at this
    omega
  · injection e with e
    injection e with e1
    omega
theorem dv_one (A : Option Addr) (n c : Nat) (d : D) : (dv A n c d).all (·.oneCell') = true := by simp [dv, Value.oneCell']
theorem av_one (A : Option Addr) (n c : Nat) (a : E) : (av A n c a).all (·.oneCell') = true := by simp [av, Value.oneCell']
theorem dv_info (A : Option Addr) (n c : Nat) (d : D) : (Tryd.prog.info? 25).map (·.size) = some (dv A n c d).size := by kernel_rfl
theorem av_info (A : Option Addr) (n c : Nat) (a : E) : (Tryd.prog.info? 27).map (·.size) = some (av A n c a).size := by kernel_rfl

/-! ### its bytes -/
def sg (n : Int) : Int := n % 4294967296
def symB (L : List G) : List Int := encs (fun n => encInt (sg n)) (L.map (·.1))
def sizB (L : List G) : List Int := encs encInt (L.map (·.2))
def entB (L : List G) : List Int := encInt L.length ++ (symB L ++ sizB L)
def bodI (d : D) : List Int := if d.K = 1 then encInt d.B else if d.K = 3 then entB d.L else if d.K = 6 then encInt (sg d.le) ++ encInt d.bi else []
def bytI (d : D) : List Int := encInt d.K ++ bodI d
def bytA (a : E) : List Int := encInt a.K ++ (encInt a.B ++ if a.K = 5 then [a.S] else bytI a.d)
theorem entB_len (L : List G) : (entB L).length ≤ 5 + 10 * L.length := by
  have h1 := encInt_len (L.length : Int)
  have h2 := encs_len (e := fun n => encInt (sg n)) (m := 5) (fun x => (encInt_len _).2) (L.map (·.1))
  have h3 := encs_len (e := encInt) (m := 5) (fun x => (encInt_len _).2) (L.map (·.2))
  simp only [List.length_map] at h2 h3
  simp only [entB, symB, sizB, List.length_append]
  omega
theorem bytI_len (d : D) : (bytI d).length ≤ 20 + 10 * d.L.length := by
  have h1 := encInt_len d.K
  have h2 := encInt_len d.B
  have h3 := encInt_len (sg d.le)
  have h4 := encInt_len d.bi
  have h5 := entB_len d.L
  unfold bytI bodI
  rw [List.length_append]
  split
  · omega
  · split
    · omega
    · split
      · rw [List.length_append]; omega
      · simp; omega
theorem bytA_len (a : E) : (bytA a).length ≤ 40 + 10 * a.d.L.length := by
  have h1 := encInt_len a.K
  have h2 := encInt_len a.B
  have h3 := bytI_len a.d
  unfold bytA
  rw [List.length_append, List.length_append]
  split
  · simp; omega
  · omega
end Go.Proofs.YtgaofnmgdefdcaaDoor.Ds
